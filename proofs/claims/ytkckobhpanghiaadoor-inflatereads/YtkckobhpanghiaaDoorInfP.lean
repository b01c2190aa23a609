/-
  A stream behind other bytes and behind what has come out already; a stored stream.
-/
import Derived.Test.YtkckobhpanghiaaDoorInfE
namespace Go.Proofs.YtkckobhpanghiaaDoor

theorem bitsFrom_shift (X Y : List UInt8) (t : Nat) : bitsFrom (X ++ Y) (t + 8 * X.length) = bitsFrom Y t := by
  have hx : le X / 2 ^ (8 * X.length) = 0 := Nat.div_eq_of_lt (by have := le_lt X; rw [pow256] at this; exact this)
  unfold bitsFrom
  rw [le_app, pow256, Nat.add_comm t, Nat.pow_add, ← Nat.div_div_eq_div_mul, Nat.add_mul_div_left _ _ (Nat.pow_pos (by decide)), hx, Nat.zero_add]
theorem bitsN_shift (X Y : List UInt8) (t n : Nat) : bitsN (X ++ Y) (t + 8 * X.length) n = bitsN Y t n := by
  have := bitsFrom_shift X Y t
  unfold bitsFrom at this
  unfold bitsN
  rw [this]
theorem total_shift (X Y : List UInt8) : total (X ++ Y) = total Y + 8 * X.length := by unfold total; rw [List.length_append]; omega
theorem num_shift {X Y : List UInt8} {t n : Nat} : num (X ++ Y) (t + 8 * X.length) n = num Y t n := by
  unfold num
  rw [total_shift, bitsN_shift]
  by_cases h : t + n ≤ total Y
  · rw [if_pos h, if_pos (by omega)]
  · rw [if_neg h, if_neg (by omega)]
theorem sym_shift {X Y : List UInt8} {c : Cd} {t s t' : Nat} (h : SymR c Y t (.inr (s, t'))) : SymR c (X ++ Y) (t + 8 * X.length) (.inr (s, t' + 8 * X.length)) := by
  cases h with
  | hit _ h =>
    have : SymR c (X ++ Y) (t + 8 * X.length) (.inr (s, t + 8 * X.length + c.ln s)) := .hit s ⟨h.1, h.2.1, by rw [total_shift]; have := h.2.2.1; omega, by rw [bitsFrom_shift]; exact h.2.2.2⟩
    rw [show t + c.ln s + 8 * X.length = t + 8 * X.length + c.ln s by omega]
    exact this
theorem step_shift {X Y : List UInt8} {c : Cd} {n t t' : Nat} {l l' : List Nat} (h : StepL c Y n t l (.inr (t', l'))) : StepL c (X ++ Y) n (t + 8 * X.length) l (.inr (t' + 8 * X.length, l')) := by
  cases h with
  | plain s _ hs h16 => exact .plain s _ (sym_shift hs) h16
  | good s t2 x hs h16 hl hx hm =>
    have := StepL.good (c := c) (X := X ++ Y) (n := n) (l := l) s (t2 + 8 * X.length) x (sym_shift hs) h16 hl (by rw [num_shift]; exact hx) hm
    rw [show t2 + (timesOf s).2 + 8 * X.length = t2 + 8 * X.length + (timesOf s).2 by omega]
    exact this
theorem lens_shift {X Y : List UInt8} {c : Cd} {n t : Nat} {l : List Nat} {r : Nat ⊕ (Nat × List Nat)} (h : Lens c Y n t l r) : ∀ t' l', r = .inr (t', l') → Lens c (X ++ Y) n (t + 8 * X.length) l (.inr (t' + 8 * X.length, l')) := by
  induction h with
  | done t l h =>
    intro t' l' e
    simp only [Sum.inr.injEq, Prod.mk.injEq] at e
    obtain ⟨rfl, rfl⟩ := e
    exact .done _ _ h
  | stop t l e h hs => intro t' l' e; simp at e
  | next t l t1 l1 r h hs hr ih => intro t' l' e; exact .next _ _ _ _ _ h (step_shift hs) (ih t' l' e)
theorem firstCd_shift (X Y : List UInt8) (t nc : Nat) : firstCd (X ++ Y) (t + 8 * X.length) nc = firstCd Y t nc := by
  unfold firstCd
  congr 1
  funext s
  split
  · rw [show t + 8 * X.length + 3 * placeOf.idxOf s = t + 3 * placeOf.idxOf s + 8 * X.length by omega, bitsN_shift]
  · rfl
theorem dyn_shift {X Y : List UInt8} {t t' : Nat} {cl cd : Cd} (h : Dyn Y t (.inr (cl, cd, t'))) : Dyn (X ++ Y) (t + 8 * X.length) (.inr (cl, cd, t' + 8 * X.length)) := by
  cases h with
  | good v _ l h1 hc hf hn1 hl hu =>
    have e1 := firstCd_shift X Y (t + 14) (4 + v / 1024)
    rw [show t + 14 + 8 * X.length = t + 8 * X.length + 14 by omega] at e1
    have hl2 := lens_shift (X := X) hl _ _ rfl
    rw [show t + 14 + 3 * (4 + v / 1024) + 8 * X.length = t + 8 * X.length + 14 + 3 * (4 + v / 1024) by omega] at hl2
    rw [← e1] at hn1 hl2
    exact .good v (t' + 8 * X.length) l (by rw [num_shift]; exact h1) hc (by rw [total_shift]; omega) hn1 hl2 hu
theorem again_shift (a o : List UInt8) (d : Nat) (hd : d ≤ o.length) (h0 : 0 < d) : ∀ n, again (a ++ o) d n = a ++ again o d n
  | 0 => rfl
  | n + 1 => by
    have hl := again_len o d n
    rw [again, again, again_shift a o d hd h0 n, List.append_assoc]
    congr 2
    rw [List.length_append, List.getElem?_append_right (by omega), show a.length + (again o d n).length - d - a.length = (again o d n).length - d by omega]
theorem rep_shift {X Y a : List UInt8} {most : Nat} {cd : Cd} {t s t' : Nat} {o o' : List UInt8} (h : Rep Y most cd t s o (.good t' o')) : Rep (X ++ Y) (a.length + most) cd (t + 8 * X.length) s (a ++ o) (.good (t' + 8 * X.length) (a ++ o')) := by
  cases h with
  | good x k t2 y h1 hl hd hk hf hb hm =>
    have hd2 := sym_shift (X := X) hd
    rw [show t + (lenOf s).2 + 8 * X.length = t + 8 * X.length + (lenOf s).2 by omega] at hd2
    have h0 : 0 < (distOf k).1 + y := by unfold distOf; simp only; omega
    have := Rep.good (X := X ++ Y) (most := a.length + most) (cd := cd) (t := t + 8 * X.length) (s := s) (o := a ++ o) x k (t2 + 8 * X.length) y h1 (by rw [num_shift]; exact hl) hd2 hk (by rw [num_shift]; exact hf) (by rw [List.length_append]; omega) (by rw [List.length_append]; omega)
    rw [again_shift a o _ hb h0] at this
    rw [show t2 + (distOf k).2 + 8 * X.length = t2 + 8 * X.length + (distOf k).2 by omega]
    exact this
theorem drop_shift (X Y : List UInt8) (a : Nat) : (X ++ Y).drop (a + X.length) = Y.drop a := by
  rw [Nat.add_comm, List.drop_append, List.drop_eq_nil_of_le (by omega)]
  simp
theorem stored_shift {X Y a : List UInt8} {most t t' : Nat} {o o' : List UInt8} (h : storedR Y most t o = .good t' o') : storedR (X ++ Y) (a.length + most) (t + 8 * X.length) (a ++ o) = .good (t' + 8 * X.length) (a ++ o') := by
  unfold storedR at h ⊢
  simp only at h ⊢
  rw [show (t + 8 * X.length + 7) / 8 = (t + 7) / 8 + X.length by omega]
  rw [drop_shift, show (t + 7) / 8 + X.length + 2 = (t + 7) / 8 + 2 + X.length by omega, drop_shift, show (t + 7) / 8 + X.length + 4 = (t + 7) / 8 + 4 + X.length by omega, drop_shift, List.length_append, List.length_append]
  split at h
  · cases h
  · split at h
    · cases h
    · split at h
      · cases h
      · split at h
        · cases h
        · rename_i g1 g2 g3 g4
          simp only [Res.good.injEq] at h
          obtain ⟨rfl, rfl⟩ := h
          rw [if_neg (by omega), if_neg g2, if_neg (by omega), if_neg (by omega), List.append_assoc]
          congr 1
          omega
theorem shift_run {X Y a : List UInt8} {most : Nat} {m : Mode} {t : Nat} {o : List UInt8} {r : Res} (h : Run Y most m t o r) : ∀ t' o', r = .good t' o' → Run (X ++ Y) (a.length + most) m (t + 8 * X.length) (a ++ o) (.good (t' + 8 * X.length) (a ++ o')) := by
  induction h with
  | fin t o => intro t' o' e; cases e; exact .fin _ _
  | head6 => intro t' o' e; cases e
  | kind3 => intro t' o' e; cases e
  | stBad => intro t' o' e; cases e
  | st t o v t1 o1 r h hk hs hr ih =>
    intro t' o' e
    refine .st _ _ v _ _ _ (by rw [num_shift]; exact h) hk ?_ (ih t' o' e)
    rw [show t + 8 * X.length + 3 = t + 3 + 8 * X.length by omega]
    exact stored_shift hs
  | fx t o v r h hk hr ih =>
    intro t' o' e
    refine .fx _ _ v _ (by rw [num_shift]; exact h) hk ?_
    rw [show t + 8 * X.length + 3 = t + 3 + 8 * X.length by omega]
    exact ih t' o' e
  | dyBad => intro t' o' e; cases e
  | dy t o v cl cd t1 r h hk hd hr ih =>
    intro t' o' e
    refine .dy _ _ v cl cd _ _ (by rw [num_shift]; exact h) hk ?_ (ih t' o' e)
    rw [show t + 8 * X.length + 3 = t + 3 + 8 * X.length by omega]
    exact dyn_shift hd
  | syBad => intro t' o' e; cases e
  | syEnd last cl cd t o t1 r h hr ih => intro t' o' e; exact .syEnd _ _ _ _ _ _ _ (sym_shift h) (ih t' o' e)
  | syBig => intro t' o' e; cases e
  | syPut last cl cd t o s t1 r h hs hm hr ih =>
    intro t' o' e
    have := ih t' o' e
    rw [← List.append_assoc] at this
    exact .syPut _ _ _ _ _ s _ _ (sym_shift h) hs (by rw [List.length_append]; omega) this
  | syRBad => intro t' o' e; cases e
  | syRep last cl cd t o s t1 t2 o2 r h hs hp hr ih => intro t' o' e; exact .syRep _ _ _ _ _ s _ _ _ _ (sym_shift h) hs (rep_shift hp) (ih t' o' e)

/-- one stored block: its mark, its length, the length turned, its bytes -/
def storedB (last : Nat) (s : List UInt8) : List UInt8 := [UInt8.ofNat last, UInt8.ofNat (s.length % 256), UInt8.ofNat (s.length / 256), UInt8.ofNat (255 - s.length % 256), UInt8.ofNat (255 - s.length / 256)] ++ s
theorem le_two (a b : UInt8) : le [a, b] = a.toNat + 256 * b.toNat := by simp [le]
theorem ofNat_nat (n : Nat) (h : n < 256) : (UInt8.ofNat n).toNat = n := by simp [UInt8.toNat_ofNat']; omega
theorem stored_ok (last : Nat) (s rest o : List UInt8) (most : Nat) (hs : s.length < 65536) (hm : o.length + s.length ≤ most) : storedR (storedB last s ++ rest) most 3 o = .good (8 * (5 + s.length)) (o ++ s) := by
  have e1 : (((storedB last s ++ rest).drop 1).take 2) = [UInt8.ofNat (s.length % 256), UInt8.ofNat (s.length / 256)] := by simp [storedB]
  have e2 : (((storedB last s ++ rest).drop 3).take 2) = [UInt8.ofNat (255 - s.length % 256), UInt8.ofNat (255 - s.length / 256)] := by simp [storedB]
  have n1 : le [UInt8.ofNat (s.length % 256), UInt8.ofNat (s.length / 256)] = s.length := by rw [le_two, ofNat_nat _ (by omega), ofNat_nat _ (by omega)]; omega
  have n2 : le [UInt8.ofNat (255 - s.length % 256), UInt8.ofNat (255 - s.length / 256)] = 65535 - s.length := by rw [le_two, ofNat_nat _ (by omega), ofNat_nat _ (by omega)]; omega
  have e3 : ((storedB last s ++ rest).drop 5).take s.length = s := by simp [storedB]
  have hl : (storedB last s ++ rest).length = 5 + s.length + rest.length := by simp [storedB]; omega
  unfold storedR
  simp only [show (3 + 7) / 8 = 1 by decide]
  rw [e1, e2, n1, n2, hl, if_neg (by omega), if_neg (by omega), if_neg (by omega), if_neg (by omega), e3]
theorem stored_big (last : Nat) (s rest o : List UInt8) (most : Nat) (hs : s.length < 65536) (hm : most < o.length + s.length) : storedR (storedB last s ++ rest) most 3 o = .bad 2 := by
  have e1 : (((storedB last s ++ rest).drop 1).take 2) = [UInt8.ofNat (s.length % 256), UInt8.ofNat (s.length / 256)] := by simp [storedB]
  have e2 : (((storedB last s ++ rest).drop 3).take 2) = [UInt8.ofNat (255 - s.length % 256), UInt8.ofNat (255 - s.length / 256)] := by simp [storedB]
  have n1 : le [UInt8.ofNat (s.length % 256), UInt8.ofNat (s.length / 256)] = s.length := by rw [le_two, ofNat_nat _ (by omega), ofNat_nat _ (by omega)]; omega
  have n2 : le [UInt8.ofNat (255 - s.length % 256), UInt8.ofNat (255 - s.length / 256)] = 65535 - s.length := by rw [le_two, ofNat_nat _ (by omega), ofNat_nat _ (by omega)]; omega
  have hl : (storedB last s ++ rest).length = 5 + s.length + rest.length := by simp [storedB]; omega
  unfold storedR
  simp only [show (3 + 7) / 8 = 1 by decide]
  rw [e1, e2, n1, n2, hl, if_neg (by omega), if_neg (by omega), if_pos (by omega)]
theorem stored_head (last : Nat) (hl : last < 2) (s rest : List UInt8) : num (storedB last s ++ rest) 0 3 = some last := by
  unfold num total
  rw [if_pos (by simp [storedB]; omega)]
  congr 1
  unfold bitsN storedB
  simp only [List.cons_append, le, Nat.pow_zero, Nat.div_one]
  rw [ofNat_nat _ (by omega)]
  omega
/-- a stored stream says its text -/
theorem run_stored (s rest : List UInt8) (most : Nat) (hs : s.length < 65536) (hm : s.length ≤ most) : Run (storedB 1 s ++ rest) most (.blk false) 0 [] (.good (8 * (5 + s.length)) s) := by
  have h1 := stored_ok 1 s rest [] most hs (by simpa using hm)
  simp only [List.nil_append] at h1
  exact .st 0 [] 1 _ _ _ (stored_head 1 (by decide) s rest) (by decide) h1 (.fin _ _)
theorem run_stored_big (s rest : List UInt8) (most : Nat) (hs : s.length < 65536) (hm : most < s.length) : Run (storedB 1 s ++ rest) most (.blk false) 0 [] (.bad 2) :=
  .stBad 0 [] 1 2 (stored_head 1 (by decide) s rest) (by decide) (stored_big 1 s rest [] most hs (by simpa using hm))
end Go.Proofs.YtkckobhpanghiaaDoor
