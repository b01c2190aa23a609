/-
  What a stream says is one thing.
-/
import Derived.Test.YtkckobhpanghiaaDoorInfM
namespace Go.Proofs.YtkckobhpanghiaaDoor

theorem Rep.det {X : List UInt8} {most : Nat} {cd : Cd} {t s : Nat} {o : List UInt8} (hc : cd.Ok) {r r' : Res} (h : Rep X most cd t s o r) (h' : Rep X most cd t s o r') : r = r' := by
  have key : ∀ x y, SymR cd X (t + (lenOf s).2) x → SymR cd X (t + (lenOf s).2) y → x = y := fun x y h h' => h.det hc h'
  cases h <;> cases h' <;> first | rfl | omega | grind
theorem StepL.det {c : Cd} {X : List UInt8} {n t : Nat} {l : List Nat} (hc : c.Ok) {r r' : Nat ⊕ (Nat × List Nat)} (h : StepL c X n t l r) (h' : StepL c X n t l r') : r = r' := by
  have key : ∀ x y, SymR c X t x → SymR c X t y → x = y := fun x y h h' => h.det hc h'
  cases h <;> cases h' <;> first | rfl | omega | grind
theorem Lens.det {c : Cd} {X : List UInt8} {n t : Nat} {l : List Nat} (hc : c.Ok) {r r' : Nat ⊕ (Nat × List Nat)} (h : Lens c X n t l r) (h' : Lens c X n t l r') : r = r' := by
  induction h with
  | done t l h => cases h' with
    | done _ _ _ => rfl
    | stop _ _ _ g _ => omega
    | next _ _ _ _ _ g _ _ => omega
  | stop t l e h hs => cases h' with
    | done _ _ _ => omega
    | stop _ _ _ g gs => have := hs.det hc gs; simpa using this
    | next _ _ _ _ _ g gs _ => have := hs.det hc gs; simp at this
  | next t l t' l' r h hs hr ih => cases h' with
    | done _ _ _ => omega
    | stop _ _ _ g gs => have := hs.det hc gs; simp at this
    | next _ _ _ _ _ g gs gr =>
      have := hs.det hc gs
      simp only [Sum.inr.injEq, Prod.mk.injEq] at this
      obtain ⟨rfl, rfl⟩ := this
      exact ih gr
theorem SymR.lt {c : Cd} {X : List UInt8} {t s t' : Nat} (h : SymR c X t (.inr (s, t'))) : s < c.L ∧ t < t' ∧ t' ≤ total X := by
  cases h with
  | hit _ h => exact ⟨h.1, by have := h.2.1; omega, h.2.2.1⟩
theorem StepL.keep {c : Cd} {X : List UInt8} {n t t' : Nat} {l l' : List Nat} (hl : ∀ x ∈ l, x ≤ 15) (hn : l.length < n) (h : StepL c X n t l (.inr (t', l'))) : (∀ x ∈ l', x ≤ 15) ∧ l'.length ≤ n ∧ t < t' := by
  cases h with
  | plain s _ h hs =>
    refine ⟨fun x hx => ?_, by simp; omega, h.lt.2.1⟩
    rcases List.mem_append.1 hx with hx | hx
    · exact hl x hx
    · simp at hx; omega
  | good s t2 x h hs h16 hx hm =>
    refine ⟨fun y hy => ?_, by simp; omega, by have := h.lt.2.1; omega⟩
    rcases List.mem_append.1 hy with hy | hy
    · exact hl y hy
    · have := (List.mem_replicate.1 hy).2
      subst this
      split
      · cases hg : l.getLast? with
        | none => simp
        | some z => exact hl z (List.mem_of_getLast? hg)
      · omega
theorem Lens.keep {c : Cd} {X : List UInt8} {n t : Nat} {l : List Nat} {r : Nat ⊕ (Nat × List Nat)} (h : Lens c X n t l r) : ∀ t' l', r = .inr (t', l') → (∀ x ∈ l, x ≤ 15) → l.length ≤ n → (∀ x ∈ l', x ≤ 15) ∧ l'.length = n ∧ t ≤ t' := by
  induction h with
  | done t l h =>
    intro t' l' e hl hn
    simp only [Sum.inr.injEq, Prod.mk.injEq] at e
    obtain ⟨rfl, rfl⟩ := e
    exact ⟨hl, by omega, Nat.le_refl _⟩
  | stop t l e h hs => intro t' l' e; simp at e
  | next t l t1 l1 r h hs hr ih =>
    intro t' l' e hl hn
    obtain ⟨k1, k2, k3⟩ := hs.keep hl h
    obtain ⟨g1, g2, g3⟩ := ih t' l' e k1 k2
    exact ⟨g1, g2, by omega⟩
theorem firstCd_ok {X : List UInt8} {t nc : Nat} (h : Fit (firstCd X t nc).ln 19) : (firstCd X t nc).Ok := by
  refine ⟨by show (19 : Nat) ≤ 320; decide, fun i => ?_, h.le⟩
  unfold firstCd
  simp only
  split
  · have := bitsN_lt X (t + 3 * placeOf.idxOf i) 3; omega
  · omega
theorem cdL_ok {l : List Nat} {n : Nat} (hn : l.length = n) (h3 : n ≤ 320) (hl : ∀ x ∈ l, x ≤ 15) (h : Fit (cdL l).ln n) : (cdL l).Ok := by
  subst hn
  refine ⟨h3, fun i => ?_, h.le⟩
  unfold cdL
  simp only [List.getD_eq_getElem?_getD]
  cases hg : l[i]? with
  | none => simp
  | some x => exact hl x (List.mem_of_getElem? hg)
theorem fixLit_ok : fixLit.Ok := by
  refine ⟨by decide, fun i => ?_, by decide +kernel⟩
  unfold fixLit
  simp only
  repeat' split
  all_goals omega
theorem fixDist_ok : fixDist.Ok := by
  refine ⟨by decide, fun i => ?_, by decide +kernel⟩
  unfold fixDist
  simp only
  split <;> omega
theorem Dyn.ok {X : List UInt8} {t t' : Nat} {cl cd : Cd} (h : Dyn X t (.inr (cl, cd, t'))) : cl.Ok ∧ cd.Ok ∧ t < t' := by
  cases h with
  | good v _ l h hc hf hn hl hu =>
    obtain ⟨k1, k2, k3⟩ := hl.keep _ _ rfl (fun x hx => by simp at hx) (Nat.zero_le _)
    refine ⟨cdL_ok (by rw [List.length_take]; omega) (by omega) (fun x hx => k1 x (List.mem_of_mem_take hx)) hu.2.1, cdL_ok (by rw [List.length_drop]; omega) (by omega) (fun x hx => k1 x (List.mem_of_mem_drop hx)) hu.2.2, by omega⟩
theorem Dyn.det {X : List UInt8} {t : Nat} {r r' : Nat ⊕ (Cd × Cd × Nat)} (h : Dyn X t r) (h' : Dyn X t r') : r = r' := by
  have key : ∀ v n x y, Fit (firstCd X (t + 14) (4 + v / 1024)).ln 19 → Lens (firstCd X (t + 14) (4 + v / 1024)) X n (t + 14 + 3 * (4 + v / 1024)) [] x → Lens (firstCd X (t + 14) (4 + v / 1024)) X n (t + 14 + 3 * (4 + v / 1024)) [] y → x = y := fun v n x y hf h h' => h.det (firstCd_ok hf) h'
  cases h <;> cases h' <;> first | rfl | omega | grind
def Mode.Ok : Mode → Prop
  | .blk _ => True
  | .sym _ cl cd => cl.Ok ∧ cd.Ok
theorem Run.det {X : List UInt8} {most : Nat} {m : Mode} {t : Nat} {o : List UInt8} {r : Res} (h : Run X most m t o r) : m.Ok → ∀ r', Run X most m t o r' → r = r' := by
  have kd : ∀ t x y, Dyn X t x → Dyn X t y → x = y := fun t x y h h' => h.det h'
  induction h with
  | fin t o => intro _ r' h'; cases h'; rfl
  | head6 t o h => intro _ r' h'; cases h' <;> grind
  | kind3 t o v h hk => intro _ r' h'; cases h' <;> grind
  | stBad t o v e h hk hs => intro _ r' h'; cases h' <;> grind
  | st t o v t' o' r h hk hs hr ih => intro _ r' h'; cases h' <;> first | exact ih trivial _ (by grind) | grind
  | fx t o v r h hk hr ih => intro _ r' h'; cases h' <;> first | exact ih ⟨fixLit_ok, fixDist_ok⟩ _ (by grind) | grind
  | dyBad t o v e h hk hd => intro _ r' h'; cases h' <;> grind
  | dy t o v cl cd t' r h hk hd hr ih => intro _ r' h'; cases h' <;> first | exact ih ⟨hd.ok.1, hd.ok.2.1⟩ _ (by grind) | grind
  | syBad last cl cd t o e h =>
    intro hm r' h'
    have ks : ∀ t x y, SymR cl X t x → SymR cl X t y → x = y := fun t x y h h' => h.det hm.1 h'
    cases h' <;> grind
  | syEnd last cl cd t o t' r h hr ih =>
    intro hm r' h'
    have ks : ∀ t x y, SymR cl X t x → SymR cl X t y → x = y := fun t x y h h' => h.det hm.1 h'
    cases h' <;> first | exact ih trivial _ (by grind) | grind
  | syBig last cl cd t o s t' h hs hm =>
    intro hm r' h'
    have ks : ∀ t x y, SymR cl X t x → SymR cl X t y → x = y := fun t x y h h' => h.det hm.1 h'
    cases h' <;> grind
  | syPut last cl cd t o s t' r h hs hm hr ih =>
    intro hm r' h'
    have ks : ∀ t x y, SymR cl X t x → SymR cl X t y → x = y := fun t x y h h' => h.det hm.1 h'
    cases h' <;> first | exact ih hm _ (by grind) | grind
  | syRBad last cl cd t o s t' e h hs hp =>
    intro hm r' h'
    have ks : ∀ t x y, SymR cl X t x → SymR cl X t y → x = y := fun t x y h h' => h.det hm.1 h'
    have kr : ∀ t s x y, Rep X most cd t s o x → Rep X most cd t s o y → x = y := fun t s x y h h' => h.det hm.2 h'
    cases h' <;> grind
  | syRep last cl cd t o s t' t2 o2 r h hs hp hr ih =>
    intro hm r' h'
    have ks : ∀ t x y, SymR cl X t x → SymR cl X t y → x = y := fun t x y h h' => h.det hm.1 h'
    have kr : ∀ t s x y, Rep X most cd t s o x → Rep X most cd t s o y → x = y := fun t s x y h h' => h.det hm.2 h'
    cases h' <;> first | exact ih hm _ (by grind) | grind
end Go.Proofs.YtkckobhpanghiaaDoor
