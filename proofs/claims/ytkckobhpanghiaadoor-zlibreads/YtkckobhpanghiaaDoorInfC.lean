/-
  A stream that goes on, one that is cut short, and a greater limit.
-/
import Derived.Test.YtkckobhpanghiaaDoorInfD
namespace Go.Proofs.YtkckobhpanghiaaDoor

theorem bitsN_take (X : List UInt8) (b t n : Nat) (h : t + n ≤ 8 * b) : bitsN (X.take b) t n = bitsN X t n := by
  unfold bitsN
  rw [le_take, pow256]
  obtain ⟨d, hd⟩ : ∃ d, 8 * b = t + d := ⟨8 * b - t, by omega⟩
  rw [hd, Nat.pow_add, Nat.mod_mul_right_div_self]
  exact Nat.mod_mod_of_dvd _ (Nat.pow_dvd_pow 2 (by omega))
theorem rv_bits (X : List UInt8) (t n : Nat) : rv (bitsFrom X t) n = rv (bitsN X t n) n := by
  unfold bitsFrom bitsN
  exact (rv_mod _ n n (Nat.le_refl _)).symm
/-- Y begins as X does, b bytes -/
structure Same (b : Nat) (X Y : List UInt8) : Prop where
  l : b ≤ X.length
  r : b ≤ Y.length
  eq : X.take b = Y.take b
theorem Same.symm {b : Nat} {X Y : List UInt8} (h : Same b X Y) : Same b Y X := ⟨h.r, h.l, h.eq.symm⟩
theorem Same.bits {b : Nat} {X Y : List UInt8} (h : Same b X Y) {t n : Nat} (hn : t + n ≤ 8 * b) : bitsN X t n = bitsN Y t n := by
  rw [← bitsN_take X b t n hn, h.eq, bitsN_take Y b t n hn]
theorem Same.num {b : Nat} {X Y : List UInt8} (h : Same b X Y) {t n v : Nat} (hn : t + n ≤ 8 * b) (hv : num X t n = some v) : num Y t n = some v := by
  have hl := h.l
  have hr := h.r
  unfold YtkckobhpanghiaaDoor.num total at *
  rw [if_pos (by omega)] at hv
  rw [if_pos (by omega), ← h.bits hn]
  exact hv
theorem Same.next {b : Nat} {X Y : List UInt8} (h : Same b X Y) {c : Cd} {t s : Nat} (hn : t + c.ln s ≤ 8 * b) (hs : Next c X t s) : Next c Y t s := by
  have hr := h.r
  obtain ⟨h1, h2, h3, h4⟩ := hs
  refine ⟨h1, h2, by unfold total; omega, ?_⟩
  rw [rv_bits, ← h.bits hn, ← rv_bits]
  exact h4
theorem Same.sym {b : Nat} {X Y : List UInt8} (h : Same b X Y) {c : Cd} {t s t' : Nat} (hn : t' ≤ 8 * b) (hs : SymR c X t (.inr (s, t'))) : SymR c Y t (.inr (s, t')) := by
  cases hs with
  | hit _ hx => exact .hit s (h.next hn hx)
theorem Same.drop {b : Nat} {X Y : List UInt8} (h : Same b X Y) {a n : Nat} (hn : a + n ≤ b) : (X.drop a).take n = (Y.drop a).take n := by
  have e : ∀ Z : List UInt8, (Z.drop a).take n = ((Z.take b).drop a).take n := fun Z => by
    rw [List.drop_take, List.take_take, Nat.min_eq_left (by omega)]
  rw [e X, h.eq, ← e Y]
theorem Same.rep {b : Nat} {X Y : List UInt8} (h : Same b X Y) {most : Nat} {cd : Cd} {t s t' : Nat} {o o' : List UInt8} (hn : t' ≤ 8 * b) (hs : Rep X most cd t s o (.good t' o')) : Rep Y most cd t s o (.good t' o') := by
  cases hs with
  | good x k t2 y h1 hl hd hk hf hb hm =>
    have := hd.lt
    exact .good x k t2 y h1 (h.num (by omega) hl) (h.sym (by omega) hd) hk (h.num (by omega) hf) hb hm
theorem Same.step {b : Nat} {X Y : List UInt8} (h : Same b X Y) {c : Cd} {n t t' : Nat} {l l' : List Nat} (hn : t' ≤ 8 * b) (hs : StepL c X n t l (.inr (t', l'))) : StepL c Y n t l (.inr (t', l')) := by
  cases hs with
  | plain s _ hs h16 => exact .plain s _ (h.sym hn hs) h16
  | good s t2 x hs h16 hl hx hm => exact .good s t2 x (h.sym (by omega) hs) h16 hl (h.num hn hx) hm
theorem Lens.mono {c : Cd} {X : List UInt8} {n t : Nat} {l : List Nat} {r : Nat ⊕ (Nat × List Nat)} (h : Lens c X n t l r) : ∀ t' l', r = .inr (t', l') → t ≤ t' := by
  induction h with
  | done t l h => intro t' l' e; simp at e; omega
  | stop t l e h hs => intro t' l' e; simp at e
  | next t l t1 l1 r h hs hr ih =>
    intro t' l' e
    have := ih t' l' e
    cases hs with
    | plain s _ hs h16 => have := hs.lt; omega
    | good s t2 x hs h16 hl hx hm => have := hs.lt; omega
theorem Same.lens {b : Nat} {X Y : List UInt8} (h : Same b X Y) {c : Cd} {n t : Nat} {l : List Nat} {r : Nat ⊕ (Nat × List Nat)} (hs : Lens c X n t l r) : ∀ t' l', r = .inr (t', l') → t' ≤ 8 * b → Lens c Y n t l (.inr (t', l')) := by
  induction hs with
  | done t l h2 =>
    intro t' l' e hn
    simp only [Sum.inr.injEq, Prod.mk.injEq] at e
    obtain ⟨rfl, rfl⟩ := e
    exact .done _ _ h2
  | stop t l e h hs => intro t' l' e; simp at e
  | next t l t1 l1 r h2 hs hr ih =>
    intro t' l' e hn
    have := hr.mono _ _ e
    exact .next t l t1 l1 _ h2 (h.step (by omega) hs) (ih t' l' e hn)
theorem firstCd_same {b : Nat} {X Y : List UInt8} (h : Same b X Y) {t nc : Nat} (hn : t + 3 * nc ≤ 8 * b) : firstCd X t nc = firstCd Y t nc := by
  unfold firstCd
  congr 1
  funext s
  split
  · rename_i hc
    exact h.bits (by omega)
  · rfl
theorem Same.dyn {b : Nat} {X Y : List UInt8} (h : Same b X Y) {t t' : Nat} {cl cd : Cd} (hn : t' ≤ 8 * b) (hs : Dyn X t (.inr (cl, cd, t'))) : Dyn Y t (.inr (cl, cd, t')) := by
  cases hs with
  | good v _ l h1 hc hf hn1 hl hu =>
    have hm := hl.mono _ _ rfl
    have hfc : firstCd X (t + 14) (4 + v / 1024) = firstCd Y (t + 14) (4 + v / 1024) := firstCd_same h (by omega)
    have hr := h.r
    rw [hfc] at hn1 hl
    exact .good v t' l (h.num (by omega) h1) hc (by unfold total; omega) hn1 (h.lens hl _ _ rfl hn) hu
theorem Same.stored {b : Nat} {X Y : List UInt8} (h : Same b X Y) {most t t' : Nat} {o o' : List UInt8} (hn : t' ≤ 8 * b) (hs : storedR X most t o = .good t' o') : storedR Y most t o = .good t' o' := by
  have hl := h.l
  have hr := h.r
  unfold storedR at hs ⊢
  simp only at hs ⊢
  split at hs
  · cases hs
  · split at hs
    · cases hs
    · split at hs
      · cases hs
      · split at hs
        · cases hs
        · rename_i g1 g2 g3 g4
          simp only [Res.good.injEq] at hs
          obtain ⟨rfl, rfl⟩ := hs
          have e1 : (X.drop ((t + 7) / 8)).take 2 = (Y.drop ((t + 7) / 8)).take 2 := h.drop (by omega)
          have e2 : (X.drop ((t + 7) / 8 + 2)).take 2 = (Y.drop ((t + 7) / 8 + 2)).take 2 := h.drop (by omega)
          rw [e1] at hn g3 g4 ⊢
          rw [e1, e2] at g2
          have e3 := h.drop (a := (t + 7) / 8 + 4) (n := le ((Y.drop ((t + 7) / 8)).take 2)) (by omega)
          rw [if_neg (by omega), if_neg g2, if_neg (by omega), if_neg (by omega), e3]
theorem Run.mono {X : List UInt8} {most : Nat} {m : Mode} {t : Nat} {o : List UInt8} {r : Res} (h : Run X most m t o r) : ∀ t' o', r = .good t' o' → t ≤ t' := by
  induction h with
  | fin t o => intro t' o' e; simp at e; omega
  | head6 => intro t' o' e; cases e
  | kind3 => intro t' o' e; cases e
  | stBad => intro t' o' e; cases e
  | st t o v t1 o1 r h hk hs hr ih =>
    intro t' o' e
    have := ih t' o' e
    unfold storedR at hs
    simp only at hs
    split at hs
    · cases hs
    · split at hs
      · cases hs
      · split at hs
        · cases hs
        · split at hs
          · cases hs
          · simp only [Res.good.injEq] at hs
            omega
  | fx t o v r h hk hr ih => intro t' o' e; have := ih t' o' e; omega
  | dyBad => intro t' o' e; cases e
  | dy t o v cl cd t1 r h hk hd hr ih => intro t' o' e; have := ih t' o' e; have := hd.ok.2.2; omega
  | syBad => intro t' o' e; cases e
  | syEnd last cl cd t o t1 r h hr ih => intro t' o' e; have := ih t' o' e; have := h.lt; omega
  | syBig => intro t' o' e; cases e
  | syPut last cl cd t o s t1 r h hs hm hr ih => intro t' o' e; have := ih t' o' e; have := h.lt; omega
  | syRBad => intro t' o' e; cases e
  | syRep last cl cd t o s t1 t2 o2 r h hs hp hr ih =>
    intro t' o' e
    have := ih t' o' e
    have := h.lt
    cases hp with
    | good x k t3 y h1 hl hd hk hf hb hm => have := hd.lt; omega
theorem stored_mono {X : List UInt8} {most t t' : Nat} {o o' : List UInt8} (hs : storedR X most t o = .good t' o') : t ≤ t' ∧ t' ≤ total X ∧ o'.length ≤ most := by
  unfold storedR at hs
  simp only at hs
  split at hs
  · cases hs
  · split at hs
    · cases hs
    · split at hs
      · cases hs
      · split at hs
        · cases hs
        · simp only [Res.good.injEq] at hs
          obtain ⟨rfl, rfl⟩ := hs
          refine ⟨by omega, by unfold total; omega, ?_⟩
          rw [List.length_append, List.length_take, List.length_drop]
          omega
/-- what a stream says hangs on its own bytes alone -/
theorem Same.run {b : Nat} {X Y : List UInt8} (h : Same b X Y) {most : Nat} {m : Mode} {t : Nat} {o : List UInt8} {r : Res} (hr : Run X most m t o r) : ∀ t' o', r = .good t' o' → t' ≤ 8 * b → Run Y most m t o (.good t' o') := by
  induction hr with
  | fin t o => intro t' o' e hn; cases e; exact .fin _ _
  | head6 => intro t' o' e; cases e
  | kind3 => intro t' o' e; cases e
  | stBad => intro t' o' e; cases e
  | st t o v t1 o1 r h1 hk hs hr ih =>
    intro t' o' e hn
    have := hr.mono _ _ e
    have := (stored_mono hs).1
    exact .st t o v t1 o1 _ (h.num (by omega) h1) hk (h.stored (by omega) hs) (ih t' o' e hn)
  | fx t o v r h1 hk hr ih =>
    intro t' o' e hn
    have := hr.mono _ _ e
    exact .fx t o v _ (h.num (by omega) h1) hk (ih t' o' e hn)
  | dyBad => intro t' o' e; cases e
  | dy t o v cl cd t1 r h1 hk hd hr ih =>
    intro t' o' e hn
    have := hr.mono _ _ e
    have := hd.ok.2.2
    exact .dy t o v cl cd t1 _ (h.num (by omega) h1) hk (h.dyn (by omega) hd) (ih t' o' e hn)
  | syBad => intro t' o' e; cases e
  | syEnd last cl cd t o t1 r h1 hr ih =>
    intro t' o' e hn
    have := hr.mono _ _ e
    exact .syEnd last cl cd t o t1 _ (h.sym (by omega) h1) (ih t' o' e hn)
  | syBig => intro t' o' e; cases e
  | syPut last cl cd t o s t1 r h1 hs hm hr ih =>
    intro t' o' e hn
    have := hr.mono _ _ e
    exact .syPut last cl cd t o s t1 _ (h.sym (by omega) h1) hs hm (ih t' o' e hn)
  | syRBad => intro t' o' e; cases e
  | syRep last cl cd t o s t1 t2 o2 r h1 hs hp hr ih =>
    intro t' o' e hn
    have := hr.mono _ _ e
    have hlt : t1 ≤ t2 := by
      cases hp with
      | good x k t3 y _ hl hd hk hf hb hm => have := hd.lt; omega
    exact .syRep last cl cd t o s t1 t2 o2 _ (h.sym (by omega) h1) hs (h.rep (by omega) hp) (ih t' o' e hn)
end Go.Proofs.YtkckobhpanghiaaDoor
