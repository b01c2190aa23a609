/-
  A stream that is cut short, and a greater limit.
-/
import Derived.Test.YtkckobhpanghiaaDoorInfC
namespace Go.Proofs.YtkckobhpanghiaaDoor

/-- Y is the first b bytes of X -/
theorem cut_same {X : List UInt8} {b : Nat} (hb : b ≤ X.length) : Same b (X.take b) X := ⟨by rw [List.length_take]; omega, hb, by rw [List.take_take, Nat.min_self]⟩
theorem cut_total {X : List UInt8} {b : Nat} (hb : b ≤ X.length) : total (X.take b) = 8 * b := by unfold total; rw [List.length_take, Nat.min_eq_left hb]
theorem cut_num {X : List UInt8} {b : Nat} (hb : b ≤ X.length) {t n : Nat} (h : 8 * b < t + n) : num (X.take b) t n = none := by
  unfold num; rw [cut_total hb, if_neg (by omega)]
theorem cut_sym {X : List UInt8} {b : Nat} (hb : b ≤ X.length) {c : Cd} (hc : c.Ok) {t s t' : Nat} (h : SymR c X t (.inr (s, t'))) (ht : 8 * b < t') : SymR c (X.take b) t (.inl 6) := by
  cases h with
  | hit _ hx =>
    refine .short (fun s' hn => ?_) ?_
    · have h1 : Next c X t s' := (cut_same hb).next (by have := hn.2.2.1; rw [cut_total hb] at this; omega) hn
      have := h1.one hc hx
      subst this
      have := hn.2.2.1
      rw [cut_total hb] at this
      omega
    · rw [cut_total hb]
      have := lgs_ge c.ln c.L s hx.1
      omega
theorem cut_step {X : List UInt8} {b : Nat} (hb : b ≤ X.length) {c : Cd} (hc : c.Ok) {n t t' : Nat} {l l' : List Nat} (h : StepL c X n t l (.inr (t', l'))) (ht : 8 * b < t') : StepL c (X.take b) n t l (.inl 6) := by
  cases h with
  | plain s _ hs h16 => exact .bad 6 (cut_sym hb hc hs ht)
  | good s t2 x hs h16 hl hx hm =>
    by_cases h2 : t2 ≤ 8 * b
    · exact .times6 s t2 ((cut_same hb).symm.sym h2 hs) h16 hl (cut_num hb ht)
    · exact .bad 6 (cut_sym hb hc hs (by omega))
theorem cut_lens {X : List UInt8} {b : Nat} (hb : b ≤ X.length) {c : Cd} (hc : c.Ok) {n t : Nat} {l : List Nat} {r : Nat ⊕ (Nat × List Nat)} (h : Lens c X n t l r) : ∀ t' l', r = .inr (t', l') → t ≤ 8 * b → 8 * b < t' → Lens c (X.take b) n t l (.inl 6) := by
  induction h with
  | done t l h => intro t' l' e h1 h2; simp at e; omega
  | stop t l e h hs => intro t' l' e; simp at e
  | next t l t1 l1 r h2 hs hr ih =>
    intro t' l' e h3 h4
    by_cases h5 : t1 ≤ 8 * b
    · exact .next t l t1 l1 _ h2 ((cut_same hb).symm.step h5 hs) (ih t' l' e h5 h4)
    · exact .stop t l 6 h2 (cut_step hb hc hs (by omega))
theorem cut_dyn {X : List UInt8} {b : Nat} (hb : b ≤ X.length) {t t' : Nat} {cl cd : Cd} (h : Dyn X t (.inr (cl, cd, t'))) (ht : 8 * b < t') : Dyn (X.take b) t (.inl 6) := by
  cases h with
  | good v _ l h1 hc hf hn1 hl hu =>
    by_cases g1 : t + 14 ≤ 8 * b
    · have k1 := (cut_same hb).symm.num g1 h1
      by_cases g2 : t + 14 + 3 * (4 + v / 1024) ≤ 8 * b
      · have hfc := firstCd_same (cut_same hb).symm (t := t + 14) (nc := 4 + v / 1024) g2
        have ho := firstCd_ok hn1
        rw [hfc] at hn1 hl ho
        exact .lens v 6 k1 hc (by rw [cut_total hb]; exact g2) hn1 (cut_lens hb ho hl _ _ rfl g2 ht)
      · exact .first6 v k1 hc (by rw [cut_total hb]; omega)
    · exact .counts6 (cut_num hb (by omega))
theorem cut_stored {X : List UInt8} {b : Nat} (hb : b ≤ X.length) {most t t' : Nat} {o o' : List UInt8} (hs : storedR X most t o = .good t' o') (ht : 8 * b < t') : storedR (X.take b) most t o = .bad 6 := by
  have hlen : (X.take b).length = b := by rw [List.length_take]; omega
  unfold storedR at hs ⊢
  simp only at hs ⊢
  rw [hlen]
  split at hs
  · cases hs
  · split at hs
    · cases hs
    · split at hs
      · cases hs
      · split at hs
        · cases hs
        · rename_i g1 g2 g3 g4
          simp only [Res.good.injEq] at hs
          obtain ⟨rfl, rfl⟩ := hs
          by_cases hh : b < (t + 7) / 8 + 4
          · rw [if_pos hh]
          · have e1 : ((X.take b).drop ((t + 7) / 8)).take 2 = (X.drop ((t + 7) / 8)).take 2 := (cut_same hb).drop (by omega)
            have e2 : ((X.take b).drop ((t + 7) / 8 + 2)).take 2 = (X.drop ((t + 7) / 8 + 2)).take 2 := (cut_same hb).drop (by omega)
            rw [if_neg hh, e1, e2, if_neg g2, if_neg (by omega), if_pos (by omega)]
theorem cut_rep {X : List UInt8} {b : Nat} (hb : b ≤ X.length) {most : Nat} {cd : Cd} (hc : cd.Ok) {t s t' : Nat} {o o' : List UInt8} (hs : Rep X most cd t s o (.good t' o')) (ht : 8 * b < t') : Rep (X.take b) most cd t s o (.bad 6) := by
  cases hs with
  | good x k t2 y h1 hl hd hk hf hb2 hm =>
    by_cases g1 : t + (lenOf s).2 ≤ 8 * b
    · have k1 := (cut_same hb).symm.num g1 hl
      by_cases g2 : t2 ≤ 8 * b
      · exact .dist6 x k t2 h1 k1 ((cut_same hb).symm.sym g2 hd) hk (cut_num hb ht)
      · exact .dist x 6 h1 k1 (cut_sym hb hc hd (by omega))
    · exact .len6 h1 (cut_num hb (by omega))
theorem cut_run {X : List UInt8} {b : Nat} (hb : b ≤ X.length) {most : Nat} {m : Mode} {t : Nat} {o : List UInt8} {r : Res} (hr : Run X most m t o r) : m.Ok → ∀ t' o', r = .good t' o' → t ≤ 8 * b → 8 * b < t' → Run (X.take b) most m t o (.bad 6) := by
  induction hr with
  | fin t o => intro _ t' o' e h1 h2; cases e; omega
  | head6 => intro _ t' o' e; cases e
  | kind3 => intro _ t' o' e; cases e
  | stBad => intro _ t' o' e; cases e
  | st t o v t1 o1 r h1 hk hs hr ih =>
    intro _ t' o' e g1 g2
    by_cases g3 : t + 3 ≤ 8 * b
    · have k1 := (cut_same hb).symm.num g3 h1
      by_cases g4 : t1 ≤ 8 * b
      · exact .st t o v t1 o1 _ k1 hk ((cut_same hb).symm.stored g4 hs) (ih trivial t' o' e g4 g2)
      · exact .stBad t o v 6 k1 hk (cut_stored hb hs (by omega))
    · exact .head6 t o (cut_num hb (by omega))
  | fx t o v r h1 hk hr ih =>
    intro _ t' o' e g1 g2
    by_cases g3 : t + 3 ≤ 8 * b
    · exact .fx t o v _ ((cut_same hb).symm.num g3 h1) hk (ih ⟨fixLit_ok, fixDist_ok⟩ t' o' e g3 g2)
    · exact .head6 t o (cut_num hb (by omega))
  | dyBad => intro _ t' o' e; cases e
  | dy t o v cl cd t1 r h1 hk hd hr ih =>
    intro _ t' o' e g1 g2
    by_cases g3 : t + 3 ≤ 8 * b
    · have k1 := (cut_same hb).symm.num g3 h1
      by_cases g4 : t1 ≤ 8 * b
      · exact .dy t o v cl cd t1 _ k1 hk ((cut_same hb).symm.dyn g4 hd) (ih ⟨hd.ok.1, hd.ok.2.1⟩ t' o' e g4 g2)
      · exact .dyBad t o v 6 k1 hk (cut_dyn hb hd (by omega))
    · exact .head6 t o (cut_num hb (by omega))
  | syBad => intro _ t' o' e; cases e
  | syEnd last cl cd t o t1 r h1 hr ih =>
    intro hm t' o' e g1 g2
    by_cases g3 : t1 ≤ 8 * b
    · exact .syEnd last cl cd t o t1 _ ((cut_same hb).symm.sym g3 h1) (ih trivial t' o' e g3 g2)
    · exact .syBad last cl cd t o 6 (cut_sym hb hm.1 h1 (by omega))
  | syBig => intro _ t' o' e; cases e
  | syPut last cl cd t o s t1 r h1 hs hmm hr ih =>
    intro hm t' o' e g1 g2
    by_cases g3 : t1 ≤ 8 * b
    · exact .syPut last cl cd t o s t1 _ ((cut_same hb).symm.sym g3 h1) hs hmm (ih hm t' o' e g3 g2)
    · exact .syBad last cl cd t o 6 (cut_sym hb hm.1 h1 (by omega))
  | syRBad => intro _ t' o' e; cases e
  | syRep last cl cd t o s t1 t2 o2 r h1 hs hp hr ih =>
    intro hm t' o' e g1 g2
    by_cases g3 : t1 ≤ 8 * b
    · have k1 := (cut_same hb).symm.sym g3 h1
      by_cases g4 : t2 ≤ 8 * b
      · exact .syRep last cl cd t o s t1 t2 o2 _ k1 hs ((cut_same hb).symm.rep g4 hp) (ih hm t' o' e g4 g2)
      · exact .syRBad last cl cd t o s t1 6 k1 hs (cut_rep hb hm.2 hp (by omega))
    · exact .syBad last cl cd t o 6 (cut_sym hb hm.1 h1 (by omega))

/-- a greater limit changes nothing of what was read within a smaller one -/
theorem limit_rep {X : List UInt8} {most more : Nat} (hm : most ≤ more) {cd : Cd} {t s : Nat} {o : List UInt8} {r : Res} (h : Rep X most cd t s o r) (h2 : r ≠ .bad 2) : Rep X more cd t s o r := by
  cases h with
  | high h => exact .high h
  | len6 h hl => exact .len6 h hl
  | dist x e h hl hd => exact .dist x e h hl hd
  | dhigh x k t2 h hl hd hk => exact .dhigh x k t2 h hl hd hk
  | dist6 x k t2 h hl hd hk hf => exact .dist6 x k t2 h hl hd hk hf
  | far x k t2 y h hl hd hk hf hb => exact .far x k t2 y h hl hd hk hf hb
  | big => exact absurd rfl h2
  | good x k t2 y h hl hd hk hf hb hm2 => exact .good x k t2 y h hl hd hk hf hb (by omega)
theorem limit_stored {X : List UInt8} {most more : Nat} (hm : most ≤ more) {t : Nat} {o : List UInt8} (h2 : storedR X most t o ≠ .bad 2) : storedR X more t o = storedR X most t o := by
  unfold storedR at h2 ⊢
  simp only at h2 ⊢
  split
  · rfl
  · split
    · rfl
    · rename_i g1 g2
      rw [if_neg g1, if_neg g2] at h2
      by_cases g3 : most < o.length + min (le ((X.drop ((t + 7) / 8)).take 2)) (X.length - ((t + 7) / 8 + 4))
      · rw [if_pos g3] at h2; exact absurd rfl h2
      · rw [if_neg g3, if_neg (by omega)]
theorem limit_run {X : List UInt8} {most more : Nat} (hm : most ≤ more) {m : Mode} {t : Nat} {o : List UInt8} {r : Res} (h : Run X most m t o r) : r ≠ .bad 2 → Run X more m t o r := by
  induction h with
  | fin t o => intro _; exact .fin t o
  | head6 t o h => intro _; exact .head6 t o h
  | kind3 t o v h hk => intro _; exact .kind3 t o v h hk
  | stBad t o v e h hk hs => intro h2; exact .stBad t o v e h hk (by rw [limit_stored hm (by rw [hs]; exact h2)]; exact hs)
  | st t o v t1 o1 r h hk hs hr ih => intro h2; exact .st t o v t1 o1 r h hk (by rw [limit_stored hm (by rw [hs]; simp)]; exact hs) (ih h2)
  | fx t o v r h hk hr ih => intro h2; exact .fx t o v r h hk (ih h2)
  | dyBad t o v e h hk hd => intro _; exact .dyBad t o v e h hk hd
  | dy t o v cl cd t1 r h hk hd hr ih => intro h2; exact .dy t o v cl cd t1 r h hk hd (ih h2)
  | syBad last cl cd t o e h => intro _; exact .syBad last cl cd t o e h
  | syEnd last cl cd t o t1 r h hr ih => intro h2; exact .syEnd last cl cd t o t1 r h (ih h2)
  | syBig => intro h2; exact absurd rfl h2
  | syPut last cl cd t o s t1 r h hs hm2 hr ih => intro h2; exact .syPut last cl cd t o s t1 r h hs (by omega) (ih h2)
  | syRBad last cl cd t o s t1 e h hs hp => intro h2; exact .syRBad last cl cd t o s t1 e h hs (limit_rep hm hp (by simpa using h2))
  | syRep last cl cd t o s t1 t2 o2 r h hs hp hr ih => intro h2; exact .syRep last cl cd t o s t1 t2 o2 r h hs (limit_rep hm hp (by simp)) (ih h2)
theorem again_len (o : List UInt8) (d n : Nat) : (again o d n).length = o.length + n := by
  induction n with
  | zero => rfl
  | succ n ih => rw [again, List.length_append, ih]; rfl
/-- never more comes out than is allowed -/
theorem limit_out {X : List UInt8} {most : Nat} {m : Mode} {t : Nat} {o : List UInt8} {r : Res} (h : Run X most m t o r) : ∀ t' o', r = .good t' o' → o.length ≤ most → o'.length ≤ most ∧ (t ≤ total X → t' ≤ total X) := by
  induction h with
  | fin t o => intro t' o' e hl; cases e; exact ⟨hl, id⟩
  | head6 => intro t' o' e; cases e
  | kind3 => intro t' o' e; cases e
  | stBad => intro t' o' e; cases e
  | st t o v t1 o1 r h hk hs hr ih => intro t' o' e hl; have k := stored_mono hs; have g := ih t' o' e k.2.2; exact ⟨g.1, fun _ => g.2 k.2.1⟩
  | fx t o v r h hk hr ih =>
    intro t' o' e hl
    have g := ih t' o' e hl
    exact ⟨g.1, fun _ => g.2 (by unfold num at h; split at h; assumption; cases h)⟩
  | dyBad => intro t' o' e; cases e
  | dy t o v cl cd t1 r h hk hd hr ih =>
    intro t' o' e hl
    have g := ih t' o' e hl
    refine ⟨g.1, fun _ => g.2 ?_⟩
    cases hd with
    | good v _ l h1 hc hf hn1 hln hu =>
      have key : ∀ {c : Cd} {n t : Nat} {l : List Nat} {r : Nat ⊕ (Nat × List Nat)}, Lens c X n t l r → ∀ t' l', r = .inr (t', l') → t ≤ total X → t' ≤ total X := by
        intro c n t l r h
        induction h with
        | done t l h => intro t' l' e h1; simp at e; omega
        | stop t l e h hs => intro t' l' e; simp at e
        | next t l t1 l1 r h2 hs hr ih =>
          intro t' l' e h3
          refine ih t' l' e ?_
          cases hs with
          | plain s _ hs h16 => exact hs.lt.2.2
          | good s t2 x hs h16 hl hx hm => unfold num at hx; split at hx; assumption; cases hx
      exact key hln _ _ rfl hf
  | syBad => intro t' o' e; cases e
  | syEnd last cl cd t o t1 r h hr ih => intro t' o' e hl; have g := ih t' o' e hl; exact ⟨g.1, fun _ => g.2 h.lt.2.2⟩
  | syBig => intro t' o' e; cases e
  | syPut last cl cd t o s t1 r h hs hm hr ih => intro t' o' e hl; have g := ih t' o' e (by simp; omega); exact ⟨g.1, fun _ => g.2 h.lt.2.2⟩
  | syRBad => intro t' o' e; cases e
  | syRep last cl cd t o s t1 t2 o2 r h hs hp hr ih =>
    intro t' o' e hl
    cases hp with
    | good x k t3 y h1 hlx hd hk hf hb hm =>
      have g := ih t' o' e (by rw [again_len]; exact hm)
      exact ⟨g.1, fun _ => g.2 (by unfold num at hf; split at hf; assumption; cases hf)⟩
end Go.Proofs.YtkckobhpanghiaaDoor
