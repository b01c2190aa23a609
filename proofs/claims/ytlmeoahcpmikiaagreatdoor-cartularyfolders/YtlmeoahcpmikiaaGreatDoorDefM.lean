/-
  Taken over from another program: DefM.
-/
import Derived.Test.YtlmeoahcpmikiaaGreatDoorJBitZ
import Derived.Test.YtlmeoahcpmikiaaGreatDoorJInfR
namespace Go.Proofs.YtlmeoahcpmikiaaGreatDoor
theorem rv_bit (V n i : Nat) : (rv V n).testBit i = (decide (i < n) && V.testBit (n - 1 - i)) := by
  induction n generalizing i with
  | zero => simp [rv]
  | succ n ih =>
    rw [rv]
    cases i with
    | zero =>
      rw [Nat.testBit_zero]
      have h1 : (2 * rv V n + V / 2 ^ n % 2) % 2 = V / 2 ^ n % 2 := by omega
      rw [h1, show n + 1 - 1 - 0 = n by omega, Nat.testBit_eq_decide_div_mod_eq]
      simp
    | succ i =>
      rw [Nat.testBit_succ]
      have h1 : (2 * rv V n + V / 2 ^ n % 2) / 2 = rv V n := by omega
      rw [h1, ih, show n + 1 - 1 - (i + 1) = n - 1 - i by omega]
      simp
/-- The turned number of a code. -/
def turned (c n : Nat) : Nat := rev32 c / 2 ^ (32 - n)
theorem turned_lt (c n : Nat) (hn : n ≤ 32) (hc : c < 4294967296) : turned c n < 2 ^ n := by
  unfold turned
  refine Nat.div_lt_of_lt_mul ?_
  rw [← Nat.pow_add, show 32 - n + n = 32 by omega]
  exact rev32_lt c hc
theorem rv_turned (c n : Nat) (hn : n ≤ 32) (hc : c < 2 ^ n) : rv (turned c n) n = c := by
  apply Nat.eq_of_testBit_eq
  intro i
  rw [rv_bit]
  by_cases hi : i < n
  · unfold turned
    rw [Nat.testBit_div_two_pow, rev32_bit c _ (by omega), show 31 - (n - 1 - i + (32 - n)) = i by omega]
    simp [hi]
  · rw [Nat.testBit_lt_two_pow (Nat.lt_of_lt_of_le hc (Nat.pow_le_pow_right (by decide) (by omega)))]
    simp [hi]
theorem code32 (ln : Nat → Nat) (L s : Nat) (h15 : ∀ i, ln i ≤ 15) (hk : kr ln L 15 ≤ 32768) (hs : s < L) : codeC ln L s < 2 ^ ln s ∧ codeC ln L s < 4294967296 := by
  have h1 := codeC_lt ln L s hs (h15 s) hk
  have h2 : 2 ^ ln s ≤ 2 ^ 15 := Nat.pow_le_pow_right (by decide) (h15 s)
  exact ⟨h1, by simp at h2; omega⟩
/-- a text's first T bits are those of N -/
def Pre (X : List UInt8) (T N : Nat) : Prop := le X % 2 ^ T = N ∧ T ≤ total X
theorem Pre.back {X : List UInt8} {T n N x : Nat} (h : Pre X (T + n) (N + 2 ^ T * x)) (hN : N < 2 ^ T) : Pre X T N ∧ bitsN X T n = x := by
  obtain ⟨h1, h2⟩ := h
  rw [Nat.pow_add, Nat.mod_mul] at h1
  have hm := Nat.mod_lt (le X) (Nat.pow_pos (n := T) (show 0 < 2 by decide))
  have e1 : (le X % 2 ^ T + 2 ^ T * (le X / 2 ^ T % 2 ^ n)) % 2 ^ T = le X % 2 ^ T := by rw [Nat.add_mul_mod_self_left, Nat.mod_mod]
  have e2 : (N + 2 ^ T * x) % 2 ^ T = N := by rw [Nat.add_mul_mod_self_left, Nat.mod_eq_of_lt hN]
  have e3 : le X % 2 ^ T = N := by rw [← e1, h1, e2]
  have e4 : 2 ^ T * (le X / 2 ^ T % 2 ^ n) = 2 ^ T * x := by rw [e3] at h1; omega
  exact ⟨⟨e3, by omega⟩, Nat.eq_of_mul_eq_mul_left (Nat.pow_pos (by decide)) e4⟩
theorem grow_lt {T n N x : Nat} (hN : N < 2 ^ T) (hx : x < 2 ^ n) : N + 2 ^ T * x < 2 ^ (T + n) := by
  rw [Nat.pow_add]
  have : 2 ^ T * (x + 1) ≤ 2 ^ T * 2 ^ n := Nat.mul_le_mul_left _ hx
  rw [Nat.mul_add, Nat.mul_one] at this
  omega
/-- a code that was written is read -/
theorem Pre.code {c : Cd} (hc : c.Ok) {X : List UInt8} {T N s : Nat} (hs : s < c.L) (h0 : 0 < c.ln s) (h : Pre X (T + c.ln s) (N + 2 ^ T * turned (codeC c.ln c.L s) (c.ln s))) (hN : N < 2 ^ T) : Pre X T N ∧ SymR c X T (.inr (s, T + c.ln s)) := by
  have h15 := hc.short s
  have h32 := code32 c.ln c.L s hc.short hc.fits hs
  obtain ⟨h1, h2⟩ := h.back hN
  refine ⟨h1, .hit s ⟨hs, h0, h.2, ?_⟩⟩
  rw [rv_bits, h2, rv_turned _ _ (by omega) h32.1]
theorem code_grow {c : Cd} (hc : c.Ok) {T N s : Nat} (hs : s < c.L) (hN : N < 2 ^ T) : N + 2 ^ T * turned (codeC c.ln c.L s) (c.ln s) < 2 ^ (T + c.ln s) :=
  grow_lt hN (turned_lt _ _ (by have := hc.short s; omega) (code32 c.ln c.L s hc.short hc.fits hs).2)
theorem Pre.num {X : List UInt8} {T n N x : Nat} (h : Pre X (T + n) (N + 2 ^ T * x)) (hN : N < 2 ^ T) : Pre X T N ∧ num X T n = some x := by
  obtain ⟨h1, h2⟩ := h.back hN
  refine ⟨h1, ?_⟩
  unfold Go.Proofs.YtlmeoahcpmikiaaGreatDoor.num
  rw [if_pos h.2, h2]
/-- what was written so far tells the first A bytes -/
def WInv (s : List UInt8) (A N T : Nat) : Prop := N < 2 ^ T ∧ ∀ X most, Pre X T N → s.length ≤ most → ∀ r, Run X most (.sym true fixLit fixDist) T (s.take A) r → Run X most (.blk false) 0 [] r
theorem winv_start (s : List UInt8) : WInv s 0 3 3 := by
  refine ⟨by decide, fun X most hp _ r hr => ?_⟩
  have h : Pre X (0 + 3) (0 + 2 ^ 0 * 3) := hp
  obtain ⟨_, h2⟩ := h.num (by decide)
  exact .fx 0 [] 3 r h2 (by decide) hr
def litN (N T c : Nat) : Nat := N + 2 ^ T * turned (codeC fixLit.ln fixLit.L c) (fixLit.ln c)
def disN (N T k : Nat) : Nat := N + 2 ^ T * turned (codeC fixDist.ln fixDist.L k) (fixDist.ln k)
theorem fix_pos : ∀ s, s < 288 → 0 < fixLit.ln s := fun s hs => by
  unfold fixLit
  simp only
  repeat' split
  all_goals omega
theorem winv_lit {s : List UInt8} {A N T : Nat} (h : WInv s A N T) (hA : A < s.length) : WInv s (A + 1) (litN N T s[A].toNat) (T + fixLit.ln s[A].toNat) := by
  have hb := (s[A]).toNat_lt
  have hL : s[A].toNat < fixLit.L := by show s[A].toNat < 288; omega
  refine ⟨code_grow fixLit_ok hL h.1, fun X most hp hm r hr => ?_⟩
  obtain ⟨h1, h2⟩ := hp.code fixLit_ok hL (fix_pos _ hL) h.1
  refine h.2 X most h1 hm r (.syPut _ _ _ T _ _ _ r h2 (by omega) ?_ ?_)
  · rw [List.length_take]; omega
  · rw [List.take_add_one, List.getElem?_eq_getElem hA] at hr
    rw [show UInt8.ofNat s[A].toNat = s[A] by simp]
    exact hr
theorem again_take {s : List UInt8} {A d : Nat} (hd : 0 < d) (hdA : d ≤ A) : ∀ l, A + l ≤ s.length → (∀ j, j < l → s.getD (A - d + j) 0 = s.getD (A + j) 0) → again (s.take A) d l = s.take (A + l)
  | 0, _,_ => by rw [again, Nat.add_zero]
  | l + 1, hl, hj => by
    rw [again, again_take hd hdA l (by omega) (fun j h => hj j (by omega))]
    have hlen : (s.take (A + l)).length = A + l := by rw [List.length_take]; omega
    rw [hlen, show A + (l + 1) = A + l + 1 by omega, List.take_add_one, List.getElem?_take, if_pos (by omega), show A + l - d = A - d + l by omega]
    have h2 := hj l (by omega)
    rw [List.getD_eq_getElem?_getD, List.getD_eq_getElem?_getD] at h2
    rw [h2, List.getElem?_eq_getElem (by omega)]
    rfl
/-- a repeat as it is written -/
theorem winv_rep {s : List UInt8} {A N T σ x k y : Nat} (h : WInv s A N T) (h1 : 257 ≤ σ) (h2 : σ ≤ 285) (hx : x < 2 ^ (lenOf σ).2) (hk : k ≤ 29) (hy : y < 2 ^ (distOf k).2) (hd : (distOf k).1 + y ≤ A) (hd0 : 0 < (distOf k).1 + y) (hl : A + ((lenOf σ).1 + x) ≤ s.length)
    (hal : ∀ j, j < (lenOf σ).1 + x → s.getD (A - ((distOf k).1 + y) + j) 0 = s.getD (A + j) 0) :
    WInv s (A + ((lenOf σ).1 + x)) (disN (litN N T σ + 2 ^ (T + fixLit.ln σ) * x) (T + fixLit.ln σ + (lenOf σ).2) k + 2 ^ (T + fixLit.ln σ + (lenOf σ).2 + fixDist.ln k) * y) (T + fixLit.ln σ + (lenOf σ).2 + fixDist.ln k + (distOf k).2) := by
  have hL : σ < fixLit.L := by show σ < 288; omega
  have hD : k < fixDist.L := by show k < 32; omega
  have hD0 : 0 < fixDist.ln k := by show 0 < if k < 32 then 5 else 0; rw [if_pos (by omega)]; decide
  have g1 := code_grow fixLit_ok hL h.1
  have g2 : litN N T σ + 2 ^ (T + fixLit.ln σ) * x < 2 ^ (T + fixLit.ln σ + (lenOf σ).2) := grow_lt g1 hx
  have g3 := code_grow fixDist_ok hD g2
  refine ⟨grow_lt g3 hy, fun X most hp hm r hr => ?_⟩
  obtain ⟨p3, n3⟩ := hp.num g3
  obtain ⟨p2, s2⟩ := Pre.code fixDist_ok hD hD0 p3 g2
  obtain ⟨p1, n1⟩ := Pre.num p2 g1
  obtain ⟨p0, s0⟩ := Pre.code fixLit_ok hL (fix_pos _ hL) p1 h.1
  have hlen : (s.take A).length = A := by rw [List.length_take]; omega
  have hrep := Rep.good (X := X) (most := most) (cd := fixDist) (t := T + fixLit.ln σ) (s := σ) (o := s.take A) x k _ y h2 n1 s2 hk n3 (by rw [hlen]; exact hd) (by rw [hlen]; omega)
  rw [again_take hd0 hd _ hl hal] at hrep
  exact h.2 X most p0 hm r (.syRep _ _ _ T _ _ _ _ _ r s0 (by omega) hrep hr)
theorem winv_end {s : List UInt8} {N T : Nat} (h : WInv s s.length N T) {X : List UInt8} {most : Nat} (hp : Pre X (T + fixLit.ln 256) (litN N T 256)) (hm : s.length ≤ most) : Run X most (.blk false) 0 [] (.good (T + fixLit.ln 256) s) := by
  obtain ⟨h1, h2⟩ := Pre.code fixLit_ok (s := 256) (by decide) (fix_pos _ (by decide)) hp h.1
  refine h.2 X most h1 hm _ (.syEnd _ _ _ T _ _ _ h2 ?_)
  rw [List.take_length]
  exact .fin _ _
end Go.Proofs.YtlmeoahcpmikiaaGreatDoor
