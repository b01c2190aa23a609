/-
  CartularyCodes: codes and whole bytes side by side: the mathematics.
-/
import Derived.Test.YtpidofgmbjkbiaaBackM
namespace Go.Proofs.Ytpidofgmbjkbiaa
open Go.RowKit

def al (t : Nat) : Nat := (t + 7) / 8 * 8
theorem al_ge (t : Nat) : t ≤ al t := by unfold al; omega
/-- What stands in the number N from place t on, up to T: codes, and (-1) the bytes X behind a filling. -/
def Laid (ln : Nat → Nat) (L : Nat) (X : ByteArray) (N T : Nat) : Nat → List Int → Prop
  | t, [] => t = T
  | t, x :: P => (∃ s : Nat, x = (s : Int) ∧ s < L ∧ 0 < ln s ∧ N / 2 ^ t % 2 ^ ln s = turned (codeC ln L s) (ln s) ∧ Laid ln L X N T (t + ln s) P) ∨
      (x = -1 ∧ N / 2 ^ al t % 2 ^ (8 * X.size) = le X.data.toList ∧ Laid ln L X N T (al t + 8 * X.size) P)
theorem Laid.upto {ln : Nat → Nat} {L : Nat} {X : ByteArray} {N T : Nat} : ∀ {P : List Int} {t : Nat}, Laid ln L X N T t P → t ≤ T := by
  intro P
  induction P with
  | nil => intro t h; exact Nat.le_of_eq h
  | cons x P ih =>
    intro t h
    rcases h with ⟨s, _, _, _, _, h⟩ | ⟨_, _, h⟩
    · have := ih h; omega
    · have := ih h; have := al_ge t; omega
theorem bits_keep (N T t n y : Nat) (h : t + n ≤ T) : (N + 2 ^ T * y) / 2 ^ t % 2 ^ n = N / 2 ^ t % 2 ^ n := by
  have e : T = t + (n + (T - t - n)) := by omega
  rw [e, Nat.pow_add, Nat.mul_assoc, Nat.add_mul_div_left _ _ (Nat.pow_pos (by decide)), Nat.pow_add, Nat.mul_assoc, Nat.add_mul_mod_self_left]
theorem bits_put (N T n y : Nat) (hN : N < 2 ^ T) (hy : y < 2 ^ n) : (N + 2 ^ T * y) / 2 ^ T % 2 ^ n = y := by
  rw [Nat.add_mul_div_left _ _ (Nat.pow_pos (by decide)), Nat.div_eq_of_lt hN, Nat.zero_add, Nat.mod_eq_of_lt hy]
theorem put_lt (N T n y : Nat) (hN : N < 2 ^ T) (hy : y < 2 ^ n) : N + 2 ^ T * y < 2 ^ (T + n) := by
  rw [Nat.pow_add]
  calc N + 2 ^ T * y < 2 ^ T + 2 ^ T * y := by omega
    _ = 2 ^ T * (y + 1) := by rw [Nat.mul_add, Nat.mul_one, Nat.add_comm]
    _ ≤ 2 ^ T * 2 ^ n := Nat.mul_le_mul_left _ hy
theorem up_lt (N T : Nat) (hN : N < 2 ^ T) : N < 2 ^ al T := Nat.lt_of_lt_of_le hN (Nat.pow_le_pow_right (by decide) (al_ge T))
theorem Laid.snoc {ln : Nat → Nat} {L : Nat} {X : ByteArray} {N N' T T' : Nat} {x : Int} (hk : ∀ t n, t + n ≤ T → N' / 2 ^ t % 2 ^ n = N / 2 ^ t % 2 ^ n) (hx : Laid ln L X N' T' T [x]) : ∀ {P : List Int} {t : Nat}, Laid ln L X N T t P → Laid ln L X N' T' t (P ++ [x]) := by
  intro P
  induction P with
  | nil => intro t h; have h' : t = T := h; subst h'; exact hx
  | cons z P ih =>
    intro t h
    rcases h with ⟨s, hz, h1, h2, h3, h⟩ | ⟨hz, h3, h⟩
    · exact .inl ⟨s, hz, h1, h2, by rw [hk _ _ h.upto]; exact h3, ih h⟩
    · exact .inr ⟨hz, by rw [hk _ _ h.upto]; exact h3, ih h⟩
theorem Laid.sym {ln : Nat → Nat} {L : Nat} {X : ByteArray} {N T s : Nat} {P : List Int} {t : Nat} (h15 : ∀ i, ln i ≤ 15) (hkr : kr ln L 15 ≤ 32768) (hN : N < 2 ^ T) (hs : s < L) (h0 : 0 < ln s) (h : Laid ln L X N T t P) :
    Laid ln L X (N + 2 ^ T * turned (codeC ln L s) (ln s)) (T + ln s) t (P ++ [(s : Int)]) ∧ N + 2 ^ T * turned (codeC ln L s) (ln s) < 2 ^ (T + ln s) := by
  have h2 := turned_lt (codeC ln L s) (ln s) (by have := h15 s; omega) (code32 ln L s h15 hkr hs).2
  exact ⟨Laid.snoc (fun t n h => bits_keep _ _ _ _ _ h) (.inl ⟨s, rfl, hs, h0, bits_put _ _ _ _ hN h2, rfl⟩) h, put_lt _ _ _ _ hN h2⟩
theorem Laid.byt {ln : Nat → Nat} {L : Nat} {X : ByteArray} {N T : Nat} {P : List Int} {t : Nat} (hN : N < 2 ^ T) (h : Laid ln L X N T t P) :
    Laid ln L X (N + 2 ^ al T * le X.data.toList) (al T + 8 * X.size) t (P ++ [-1]) ∧ N + 2 ^ al T * le X.data.toList < 2 ^ (al T + 8 * X.size) := by
  have h2 : le X.data.toList < 2 ^ (8 * X.size) := by
    have := le_lt X.data.toList
    rw [pow256] at this
    exact this
  have hN' := up_lt N T hN
  exact ⟨Laid.snoc (fun t n h => bits_keep _ _ _ _ _ (Nat.le_trans h (al_ge T))) (.inr ⟨rfl, bits_put _ _ _ _ hN' h2, rfl⟩) h, put_lt _ _ _ _ hN' h2⟩
theorem rv_found (ln : Nat → Nat) (L V s : Nat) (h15 : ∀ i, ln i ≤ 15) (hkr : kr ln L 15 ≤ 32768) (hs : s < L) (h : V % 2 ^ ln s = turned (codeC ln L s) (ln s)) : rv V (ln s) = codeC ln L s := by
  rw [← rv_mod _ (ln s) (ln s) (Nat.le_refl _), h]
  exact rv_turned _ _ (by have := h15 s; omega) (code32 ln L s h15 hkr hs).1
end Go.Proofs.Ytpidofgmbjkbiaa
