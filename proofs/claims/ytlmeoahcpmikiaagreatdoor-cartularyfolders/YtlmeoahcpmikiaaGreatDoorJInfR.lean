/-
  Taken over from another program: InfM.
  Taken over from another program: InfD.
  Taken over from another program: InfC.
  Taken over from another program: InfE.
  Taken over from another program: InfP.
  Taken over from another program: InfA.
  Taken over from another program: InfB.
  Taken over from another program: LitA.
  Taken over from another program: InfS.
  Taken over from another program: ZSum.
  Taken over from another program: FixA.
  Taken over from another program: InfR.
-/
import Derived.Test.YtlmeoahcpmikiaaGreatDoorJHufX
import Derived.Test.YtlmeoahcpmikiaaGreatDoorJBitZ
import Derived.Deep.QuietTactic
import Derived.BigQuiet
import Derived.Maps.AppendAt
import Derived.WalkSpells
import Derived.WalkLawsBesides
import Derived.Laws.IdiomStrings
import Derived.Lib.AppendStr
import Derived.Laws.BitsAllLaws
import Derived.OwnWalk
import Derived.Deep.RegionLaw
import Derived.Laws.CopyOwn
namespace Go.Proofs.YtlmeoahcpmikiaaGreatDoor
/-- a set of codes: lengths by symbols, how many symbols -/
structure Cd where
  ln : Nat → Nat
  L : Nat
/-- how a reading ends: an error's number, or bits taken and bytes that came out -/
inductive Res where
  | bad (e : Nat)
  | good (t : Nat) (o : List UInt8)
/-- bits of a row of bytes behind t -/
def bitsFrom (X : List UInt8) (t : Nat) : Nat := le X / 2 ^ t
def total (X : List UInt8) : Nat := 8 * X.length
/-- a symbol's code stands next -/
def Next (c : Cd) (X : List UInt8) (t s : Nat) : Prop := s < c.L ∧ 0 < c.ln s ∧ t + c.ln s ≤ total X ∧ rv (bitsFrom X t) (c.ln s) = codeC c.ln c.L s
/-- a set that can be read: lengths up to 15, codes that fit -/
structure Cd.Ok (c : Cd) : Prop where
  few : c.L ≤ 320
  short : ∀ i, c.ln i ≤ 15
  fits : kr c.ln c.L 15 ≤ 32768
theorem rv_front (V n m : Nat) (h : n ≤ m) : rv V m / 2 ^ (m - n) = rv V n := by
  obtain ⟨d, rfl⟩ : ∃ d, m = n + d := ⟨m - n, by omega⟩
  rw [show n + d - n = d by omega]
  clear h
  induction d with
  | zero => simp
  | succ d ih =>
    rw [show n + (d + 1) = (n + d) + 1 by omega, rv, Nat.pow_succ, Nat.mul_comm (2 ^ d) 2, ← Nat.div_div_eq_div_mul]
    have := Nat.mod_lt (V / 2 ^ (n + d)) (show 0 < 2 by decide)
    rw [show (2 * rv V (n + d) + V / 2 ^ (n + d) % 2) / 2 = rv V (n + d) by omega, ih]
theorem Next.one {c : Cd} {X : List UInt8} {t s s' : Nat} (hc : c.Ok) (h : Next c X t s) (h' : Next c X t s') : s = s' := by
  obtain ⟨h1, h2, _, h4⟩ := h
  obtain ⟨g1, g2, _, g4⟩ := h'
  rcases Nat.lt_trichotomy (c.ln s) (c.ln s') with hl | hl | hl
  · exact absurd (by rw [← g4, rv_front _ _ _ (Nat.le_of_lt hl)]; exact h4) (codeC_apart c.ln c.L s' s h1 (hc.short _) h2 hl)
  · rcases Nat.lt_trichotomy s s' with hs | hs | hs
    · have := codeC_rise c.ln c.L s' s hs hl h2
      rw [← h4, ← g4, hl] at this; omega
    · exact hs
    · have := codeC_rise c.ln c.L s s' hs hl.symm g2
      rw [← h4, ← g4, hl] at this; omega
  · exact absurd (by rw [← h4, rv_front _ _ _ (Nat.le_of_lt hl)]; exact g4) (codeC_apart c.ln c.L s s' g1 (hc.short _) g2 hl)
/-- a symbol is read: symbol and bits behind it, or an error: 6 where bits are wanting, 3 where no code is met -/
inductive SymR (c : Cd) (X : List UInt8) (t : Nat) : Nat ⊕ (Nat × Nat) → Prop where
  | hit (s : Nat) (h : Next c X t s) : SymR c X t (.inr (s, t + c.ln s))
  | short (hn : ∀ s, ¬ Next c X t s) (h : total X < t + lgs c.ln c.L) : SymR c X t (.inl 6)
  | none (hn : ∀ s, ¬ Next c X t s) (h : t + lgs c.ln c.L ≤ total X) : SymR c X t (.inl 3)
theorem SymR.det {c : Cd} {X : List UInt8} {t : Nat} (hc : c.Ok) {r r' : Nat ⊕ (Nat × Nat)} (h : SymR c X t r) (h' : SymR c X t r') : r = r' := by
  cases h with
  | hit s h => cases h' with
    | hit s' h2 => rw [h.one hc h2]
    | short hn _ => exact absurd h (hn s)
    | none hn _ => exact absurd h (hn s)
  | short hn h => cases h' with
    | hit s' h2 => exact absurd h2 (hn s')
    | short _ _ => rfl
    | none _ h2 => omega
  | none hn h => cases h' with
    | hit s' h2 => exact absurd h2 (hn s')
    | short _ h2 => omega
    | none _ _ => rfl
/-- a number of n bits -/
def num (X : List UInt8) (t n : Nat) : Option Nat := if t + n ≤ total X then some (bitsN X t n) else none
/-- symbol number k of a row: what it begins with above the row's least number, its further bits -/
def spreadN (k alike : Nat) : Nat × Nat := ((k - (k / alike - 1) * alike) * 2 ^ (k / alike - 1), k / alike - 1)
def lenOf (s : Nat) : Nat × Nat := if s = 285 then (258, 0) else (3 + (spreadN (s - 257) 4).1, (spreadN (s - 257) 4).2)
def distOf (s : Nat) : Nat × Nat := (1 + (spreadN s 2).1, (spreadN s 2).2)
/-- bytes come out once more -/
def again (o : List UInt8) (d : Nat) : Nat → List UInt8
  | 0 => o
  | n + 1 => again o d n ++ [((again o d n)[(again o d n).length - d]?).getD 0]
/-- a repeat: behind its length symbol -/
inductive Rep (X : List UInt8) (most : Nat) (cd : Cd) (t s : Nat) (o : List UInt8) : Res → Prop where
  | high (h : 285 < s) : Rep X most cd t s o (.bad 3)
  | len6 (h : s ≤ 285) (hl : num X t (lenOf s).2 = none) : Rep X most cd t s o (.bad 6)
  | dist (x e : Nat) (h : s ≤ 285) (hl : num X t (lenOf s).2 = some x) (hd : SymR cd X (t + (lenOf s).2) (.inl e)) : Rep X most cd t s o (.bad e)
  | dhigh (x k t2 : Nat) (h : s ≤ 285) (hl : num X t (lenOf s).2 = some x) (hd : SymR cd X (t + (lenOf s).2) (.inr (k, t2))) (hk : 29 < k) : Rep X most cd t s o (.bad 3)
  | dist6 (x k t2 : Nat) (h : s ≤ 285) (hl : num X t (lenOf s).2 = some x) (hd : SymR cd X (t + (lenOf s).2) (.inr (k, t2))) (hk : k ≤ 29) (hf : num X t2 (distOf k).2 = none) : Rep X most cd t s o (.bad 6)
  | far (x k t2 y : Nat) (h : s ≤ 285) (hl : num X t (lenOf s).2 = some x) (hd : SymR cd X (t + (lenOf s).2) (.inr (k, t2))) (hk : k ≤ 29) (hf : num X t2 (distOf k).2 = some y) (hb : o.length < (distOf k).1 + y) : Rep X most cd t s o (.bad 3)
  | big (x k t2 y : Nat) (h : s ≤ 285) (hl : num X t (lenOf s).2 = some x) (hd : SymR cd X (t + (lenOf s).2) (.inr (k, t2))) (hk : k ≤ 29) (hf : num X t2 (distOf k).2 = some y) (hb : (distOf k).1 + y ≤ o.length) (hm : most < o.length + ((lenOf s).1 + x)) : Rep X most cd t s o (.bad 2)
  | good (x k t2 y : Nat) (h : s ≤ 285) (hl : num X t (lenOf s).2 = some x) (hd : SymR cd X (t + (lenOf s).2) (.inr (k, t2))) (hk : k ≤ 29) (hf : num X t2 (distOf k).2 = some y) (hb : (distOf k).1 + y ≤ o.length) (hm : o.length + ((lenOf s).1 + x) ≤ most) : Rep X most cd t s o (.good (t2 + (distOf k).2) (again o ((distOf k).1 + y) ((lenOf s).1 + x)))
def storedR (X : List UInt8) (most t : Nat) (o : List UInt8) : Res :=
  let a := (t + 7) / 8
  if X.length < a + 4 then .bad 6
  else if le ((X.drop a).take 2) + le ((X.drop (a + 2)).take 2) ≠ 65535 then .bad 3
  else
    let n := le ((X.drop a).take 2)
    let k := min n (X.length - (a + 4))
    if most < o.length + k then .bad 2
    else if k < n then .bad 6
    else .good (8 * (a + 4 + n)) (o ++ (X.drop (a + 4)).take n)
/-- lengths of a list, as a set -/
def cdL (l : List Nat) : Cd := ⟨fun i => l.getD i 0, l.length⟩
def fixLit : Cd := ⟨fun i => if i < 144 then 8 else if i < 256 then 9 else if i < 280 then 7 else if i < 288 then 8 else 0, 288⟩
def fixDist : Cd := ⟨fun i => if i < 32 then 5 else 0, 32⟩
/-- how often a symbol of the first set repeats: least, further bits -/
def timesOf (s : Nat) : Nat × Nat := if s = 16 then (3, 2) else if s = 17 then (3, 3) else (11, 7)
/-- one more symbol of the first set -/
inductive StepL (c : Cd) (X : List UInt8) (n t : Nat) (l : List Nat) : Nat ⊕ (Nat × List Nat) → Prop where
  | bad (e : Nat) (h : SymR c X t (.inl e)) : StepL c X n t l (.inl e)
  | first (t2 : Nat) (h : SymR c X t (.inr (16, t2))) (hl : l = []) : StepL c X n t l (.inl 3)
  | plain (s t2 : Nat) (h : SymR c X t (.inr (s, t2))) (hs : s < 16) : StepL c X n t l (.inr (t2, l ++ [s]))
  | times6 (s t2 : Nat) (h : SymR c X t (.inr (s, t2))) (hs : 16 ≤ s) (hl : ¬ (s = 16 ∧ l = [])) (hx : num X t2 (timesOf s).2 = none) : StepL c X n t l (.inl 6)
  | many (s t2 x : Nat) (h : SymR c X t (.inr (s, t2))) (hs : 16 ≤ s) (hl : ¬ (s = 16 ∧ l = [])) (hx : num X t2 (timesOf s).2 = some x) (hm : n < l.length + ((timesOf s).1 + x)) : StepL c X n t l (.inl 3)
  | good (s t2 x : Nat) (h : SymR c X t (.inr (s, t2))) (hs : 16 ≤ s) (hl : ¬ (s = 16 ∧ l = [])) (hx : num X t2 (timesOf s).2 = some x) (hm : l.length + ((timesOf s).1 + x) ≤ n) :
      StepL c X n t l (.inr (t2 + (timesOf s).2, l ++ List.replicate ((timesOf s).1 + x) (if s = 16 then l.getLast?.getD 0 else 0)))
inductive Lens (c : Cd) (X : List UInt8) (n : Nat) : Nat → List Nat → Nat ⊕ (Nat × List Nat) → Prop where
  | done (t : Nat) (l : List Nat) (h : n ≤ l.length) : Lens c X n t l (.inr (t, l))
  | stop (t : Nat) (l : List Nat) (e : Nat) (h : l.length < n) (hs : StepL c X n t l (.inl e)) : Lens c X n t l (.inl e)
  | next (t : Nat) (l : List Nat) (t' : Nat) (l' : List Nat) (r : Nat ⊕ (Nat × List Nat)) (h : l.length < n) (hs : StepL c X n t l (.inr (t', l'))) (hr : Lens c X n t' l' r) : Lens c X n t l r
/-- where a symbol's length of the first set stands -/
def placeOf : List Nat := [16, 17, 18, 0, 8, 7, 9, 6, 10, 5, 11, 4, 12, 3, 13, 2, 14, 1, 15]
def firstCd (X : List UInt8) (t nc : Nat) : Cd := ⟨fun s => if s < 19 ∧ placeOf.idxOf s < nc then bitsN X (t + 3 * placeOf.idxOf s) 3 else 0, 19⟩
/-- a dynamic block's sets -/
inductive Dyn (X : List UInt8) (t : Nat) : Nat ⊕ (Cd × Cd × Nat) → Prop where
  | counts6 (h : num X t 14 = none) : Dyn X t (.inl 6)
  | counts3 (v : Nat) (h : num X t 14 = some v) (hc : 286 < 257 + v % 32 ∨ 30 < 1 + v / 32 % 32) : Dyn X t (.inl 3)
  | first6 (v : Nat) (h : num X t 14 = some v) (hc : 257 + v % 32 ≤ 286 ∧ 1 + v / 32 % 32 ≤ 30) (hf : total X < t + 14 + 3 * (4 + v / 1024)) : Dyn X t (.inl 6)
  | first3 (v : Nat) (h : num X t 14 = some v) (hc : 257 + v % 32 ≤ 286 ∧ 1 + v / 32 % 32 ≤ 30) (hf : t + 14 + 3 * (4 + v / 1024) ≤ total X) (hn : ¬ Fit (firstCd X (t + 14) (4 + v / 1024)).ln 19) : Dyn X t (.inl 3)
  | lens (v e : Nat) (h : num X t 14 = some v) (hc : 257 + v % 32 ≤ 286 ∧ 1 + v / 32 % 32 ≤ 30) (hf : t + 14 + 3 * (4 + v / 1024) ≤ total X) (hn : Fit (firstCd X (t + 14) (4 + v / 1024)).ln 19)
      (hl : Lens (firstCd X (t + 14) (4 + v / 1024)) X (257 + v % 32 + (1 + v / 32 % 32)) (t + 14 + 3 * (4 + v / 1024)) [] (.inl e)) : Dyn X t (.inl e)
  | use3 (v t' : Nat) (l : List Nat) (h : num X t 14 = some v) (hc : 257 + v % 32 ≤ 286 ∧ 1 + v / 32 % 32 ≤ 30) (hf : t + 14 + 3 * (4 + v / 1024) ≤ total X) (hn : Fit (firstCd X (t + 14) (4 + v / 1024)).ln 19)
      (hl : Lens (firstCd X (t + 14) (4 + v / 1024)) X (257 + v % 32 + (1 + v / 32 % 32)) (t + 14 + 3 * (4 + v / 1024)) [] (.inr (t', l)))
      (hu : ¬ (l.getD 256 0 ≠ 0 ∧ Fit (cdL (l.take (257 + v % 32))).ln (257 + v % 32) ∧ Fit (cdL (l.drop (257 + v % 32))).ln (1 + v / 32 % 32))) : Dyn X t (.inl 3)
  | good (v t' : Nat) (l : List Nat) (h : num X t 14 = some v) (hc : 257 + v % 32 ≤ 286 ∧ 1 + v / 32 % 32 ≤ 30) (hf : t + 14 + 3 * (4 + v / 1024) ≤ total X) (hn : Fit (firstCd X (t + 14) (4 + v / 1024)).ln 19)
      (hl : Lens (firstCd X (t + 14) (4 + v / 1024)) X (257 + v % 32 + (1 + v / 32 % 32)) (t + 14 + 3 * (4 + v / 1024)) [] (.inr (t', l)))
      (hu : l.getD 256 0 ≠ 0 ∧ Fit (cdL (l.take (257 + v % 32))).ln (257 + v % 32) ∧ Fit (cdL (l.drop (257 + v % 32))).ln (1 + v / 32 % 32)) : Dyn X t (.inr (cdL (l.take (257 + v % 32)), cdL (l.drop (257 + v % 32)), t'))
/-- where a stream stands: ahead of a block (is the last one behind it?), or among a block's symbols -/
inductive Mode where
  | blk (last : Bool)
  | sym (last : Bool) (cl cd : Cd)
/-- what a stream says from there -/
inductive Run (X : List UInt8) (most : Nat) : Mode → Nat → List UInt8 → Res → Prop where
  | fin (t : Nat) (o : List UInt8) : Run X most (.blk true) t o (.good t o)
  | head6 (t : Nat) (o : List UInt8) (h : num X t 3 = none) : Run X most (.blk false) t o (.bad 6)
  | kind3 (t : Nat) (o : List UInt8) (v : Nat) (h : num X t 3 = some v) (hk : v / 2 = 3) : Run X most (.blk false) t o (.bad 3)
  | stBad (t : Nat) (o : List UInt8) (v e : Nat) (h : num X t 3 = some v) (hk : v / 2 = 0) (hs : storedR X most (t + 3) o = .bad e) : Run X most (.blk false) t o (.bad e)
  | st (t : Nat) (o : List UInt8) (v t' : Nat) (o' : List UInt8) (r : Res) (h : num X t 3 = some v) (hk : v / 2 = 0) (hs : storedR X most (t + 3) o = .good t' o') (hr : Run X most (.blk (v % 2 == 1)) t' o' r) : Run X most (.blk false) t o r
  | fx (t : Nat) (o : List UInt8) (v : Nat) (r : Res) (h : num X t 3 = some v) (hk : v / 2 = 1) (hr : Run X most (.sym (v % 2 == 1) fixLit fixDist) (t + 3) o r) : Run X most (.blk false) t o r
  | dyBad (t : Nat) (o : List UInt8) (v e : Nat) (h : num X t 3 = some v) (hk : v / 2 = 2) (hd : Dyn X (t + 3) (.inl e)) : Run X most (.blk false) t o (.bad e)
  | dy (t : Nat) (o : List UInt8) (v : Nat) (cl cd : Cd) (t' : Nat) (r : Res) (h : num X t 3 = some v) (hk : v / 2 = 2) (hd : Dyn X (t + 3) (.inr (cl, cd, t'))) (hr : Run X most (.sym (v % 2 == 1) cl cd) t' o r) : Run X most (.blk false) t o r
  | syBad (last : Bool) (cl cd : Cd) (t : Nat) (o : List UInt8) (e : Nat) (h : SymR cl X t (.inl e)) : Run X most (.sym last cl cd) t o (.bad e)
  | syEnd (last : Bool) (cl cd : Cd) (t : Nat) (o : List UInt8) (t' : Nat) (r : Res) (h : SymR cl X t (.inr (256, t'))) (hr : Run X most (.blk last) t' o r) : Run X most (.sym last cl cd) t o r
  | syBig (last : Bool) (cl cd : Cd) (t : Nat) (o : List UInt8) (s t' : Nat) (h : SymR cl X t (.inr (s, t'))) (hs : s < 256) (hm : most ≤ o.length) : Run X most (.sym last cl cd) t o (.bad 2)
  | syPut (last : Bool) (cl cd : Cd) (t : Nat) (o : List UInt8) (s t' : Nat) (r : Res) (h : SymR cl X t (.inr (s, t'))) (hs : s < 256) (hm : o.length < most) (hr : Run X most (.sym last cl cd) t' (o ++ [UInt8.ofNat s]) r) : Run X most (.sym last cl cd) t o r
  | syRBad (last : Bool) (cl cd : Cd) (t : Nat) (o : List UInt8) (s t' e : Nat) (h : SymR cl X t (.inr (s, t'))) (hs : 256 < s) (hp : Rep X most cd t' s o (.bad e)) : Run X most (.sym last cl cd) t o (.bad e)
  | syRep (last : Bool) (cl cd : Cd) (t : Nat) (o : List UInt8) (s t' t2 : Nat) (o2 : List UInt8) (r : Res) (h : SymR cl X t (.inr (s, t'))) (hs : 256 < s) (hp : Rep X most cd t' s o (.good t2 o2)) (hr : Run X most (.sym last cl cd) t2 o2 r) : Run X most (.sym last cl cd) t o r
end Go.Proofs.YtlmeoahcpmikiaaGreatDoor
namespace Go.Proofs.YtlmeoahcpmikiaaGreatDoor
theorem Rep.det {X : List UInt8} {most : Nat} {cd : Cd} {t s : Nat} {o : List UInt8} (hc : cd.Ok) {r r' : Res} (h : Rep X most cd t s o r) (h' : Rep X most cd t s o r') : r = r' := by
  have key : ∀ x y, SymR cd X (t + (lenOf s).2) x → SymR cd X (t + (lenOf s).2) y → x = y := fun x y h h' => h.det hc h'
  cases h <;> cases h' <;> first | rfl | omega | grind
theorem StepL.det {c : Cd} {X : List UInt8} {n t : Nat} {l : List Nat} (hc : c.Ok) {r r' : Nat ⊕ (Nat × List Nat)} (h : StepL c X n t l r) (h' : StepL c X n t l r') : r = r' := by
  have key : ∀ x y, SymR c X t x → SymR c X t y → x = y := fun x y h h' => h.det hc h'
  cases h <;> cases h' <;> first | rfl | omega | grind
theorem Lens.det {c : Cd} {X : List UInt8} {n t : Nat} {l : List Nat} (hc : c.Ok) {r r' : Nat ⊕ (Nat × List Nat)} (h : Lens c X n t l r) (h' : Lens c X n t l r') : r = r' := by
  induction h with
  | done t l h => cases h' with
    | done _ _ _ => rfl
    | stop _ _ _ g _ => omega
    | next _ _ _ _ _ g _ _ => omega
  | stop t l e h hs => cases h' with
    | done _ _ _ => omega
    | stop _ _ _ g gs => have := hs.det hc gs; simpa using this
    | next _ _ _ _ _ g gs _ => have := hs.det hc gs; simp at this
  | next t l t' l' r h hs hr ih => cases h' with
    | done _ _ _ => omega
    | stop _ _ _ g gs => have := hs.det hc gs; simp at this
    | next _ _ _ _ _ g gs gr =>
      have := hs.det hc gs
      simp only [Sum.inr.injEq, Prod.mk.injEq] at this
      obtain ⟨rfl, rfl⟩ := this
      exact ih gr
theorem SymR.lt {c : Cd} {X : List UInt8} {t s t' : Nat} (h : SymR c X t (.inr (s, t'))) : s < c.L ∧ t < t' ∧ t' ≤ total X := by
  cases h with
  | hit _ h => exact ⟨h.1, by have := h.2.1; omega, h.2.2.1⟩
theorem StepL.keep {c : Cd} {X : List UInt8} {n t t' : Nat} {l l' : List Nat} (hl : ∀ x ∈ l, x ≤ 15) (hn : l.length < n) (h : StepL c X n t l (.inr (t', l'))) : (∀ x ∈ l', x ≤ 15) ∧ l'.length ≤ n ∧ t < t' := by
  cases h with
  | plain s _ h hs =>
    refine ⟨fun x hx => ?_, by simp; omega, h.lt.2.1⟩
    rcases List.mem_append.1 hx with hx | hx
    · exact hl x hx
    · simp at hx; omega
  | good s t2 x h hs h16 hx hm =>
    refine ⟨fun y hy => ?_, by simp; omega, by have := h.lt.2.1; omega⟩
    rcases List.mem_append.1 hy with hy | hy
    · exact hl y hy
    · have := (List.mem_replicate.1 hy).2
      subst this
      split
      · cases hg : l.getLast? with
        | none => simp
        | some z => exact hl z (List.mem_of_getLast? hg)
      · omega
theorem Lens.keep {c : Cd} {X : List UInt8} {n t : Nat} {l : List Nat} {r : Nat ⊕ (Nat × List Nat)} (h : Lens c X n t l r) : ∀ t' l', r = .inr (t', l') → (∀ x ∈ l, x ≤ 15) → l.length ≤ n → (∀ x ∈ l', x ≤ 15) ∧ l'.length = n ∧ t ≤ t' := by
  induction h with
  | done t l h =>
    intro t' l' e hl hn
    simp only [Sum.inr.injEq, Prod.mk.injEq] at e
    obtain ⟨rfl, rfl⟩ := e
    exact ⟨hl, by omega, Nat.le_refl _⟩
  | stop t l e h hs => intro t' l' e; simp at e
  | next t l t1 l1 r h hs hr ih =>
    intro t' l' e hl hn
    obtain ⟨k1, k2, k3⟩ := hs.keep hl h
    obtain ⟨g1, g2, g3⟩ := ih t' l' e k1 k2
    exact ⟨g1, g2, by omega⟩
theorem firstCd_ok {X : List UInt8} {t nc : Nat} (h : Fit (firstCd X t nc).ln 19) : (firstCd X t nc).Ok := by
  refine ⟨by show (19 : Nat) ≤ 320; decide, fun i => ?_, h.le⟩
  unfold firstCd
  simp only
  split
  · have := bitsN_lt X (t + 3 * placeOf.idxOf i) 3; omega
  · omega
theorem cdL_ok {l : List Nat} {n : Nat} (hn : l.length = n) (h3 : n ≤ 320) (hl : ∀ x ∈ l, x ≤ 15) (h : Fit (cdL l).ln n) : (cdL l).Ok := by
  subst hn
  refine ⟨h3, fun i => ?_, h.le⟩
  unfold cdL
  simp only [List.getD_eq_getElem?_getD]
  cases hg : l[i]? with
  | none => simp
  | some x => exact hl x (List.mem_of_getElem? hg)
theorem fixLit_ok : fixLit.Ok := by
  refine ⟨by decide, fun i => ?_, by decide +kernel⟩
  unfold fixLit
  simp only
  repeat' split
  all_goals omega
theorem fixDist_ok : fixDist.Ok := by
  refine ⟨by decide, fun i => ?_, by decide +kernel⟩
  unfold fixDist
  simp only
  split <;> omega
theorem Dyn.ok {X : List UInt8} {t t' : Nat} {cl cd : Cd} (h : Dyn X t (.inr (cl, cd, t'))) : cl.Ok ∧ cd.Ok ∧ t < t' := by
  cases h with
  | good v _ l h hc hf hn hl hu =>
    obtain ⟨k1, k2, k3⟩ := hl.keep _ _ rfl (fun x hx => by simp at hx) (Nat.zero_le _)
    refine ⟨cdL_ok (by rw [List.length_take]; omega) (by omega) (fun x hx => k1 x (List.mem_of_mem_take hx)) hu.2.1, cdL_ok (by rw [List.length_drop]; omega) (by omega) (fun x hx => k1 x (List.mem_of_mem_drop hx)) hu.2.2, by omega⟩
theorem Dyn.det {X : List UInt8} {t : Nat} {r r' : Nat ⊕ (Cd × Cd × Nat)} (h : Dyn X t r) (h' : Dyn X t r') : r = r' := by
  have key : ∀ v n x y, Fit (firstCd X (t + 14) (4 + v / 1024)).ln 19 → Lens (firstCd X (t + 14) (4 + v / 1024)) X n (t + 14 + 3 * (4 + v / 1024)) [] x → Lens (firstCd X (t + 14) (4 + v / 1024)) X n (t + 14 + 3 * (4 + v / 1024)) [] y → x = y := fun v n x y hf h h' => h.det (firstCd_ok hf) h'
  cases h <;> cases h' <;> first | rfl | omega | grind
def Mode.Ok : Mode → Prop
  | .blk _ => True
  | .sym _ cl cd => cl.Ok ∧ cd.Ok
theorem Run.det {X : List UInt8} {most : Nat} {m : Mode} {t : Nat} {o : List UInt8} {r : Res} (h : Run X most m t o r) : m.Ok → ∀ r', Run X most m t o r' → r = r' := by
  have kd : ∀ t x y, Dyn X t x → Dyn X t y → x = y := fun t x y h h' => h.det h'
  induction h with
  | fin t o => intro _ r' h'; cases h'; rfl
  | head6 t o h => intro _ r' h'; cases h' <;> grind
  | kind3 t o v h hk => intro _ r' h'; cases h' <;> grind
  | stBad t o v e h hk hs => intro _ r' h'; cases h' <;> grind
  | st t o v t' o' r h hk hs hr ih => intro _ r' h'; cases h' <;> first | exact ih trivial _ (by grind) | grind
  | fx t o v r h hk hr ih => intro _ r' h'; cases h' <;> first | exact ih ⟨fixLit_ok, fixDist_ok⟩ _ (by grind) | grind
  | dyBad t o v e h hk hd => intro _ r' h'; cases h' <;> grind
  | dy t o v cl cd t' r h hk hd hr ih => intro _ r' h'; cases h' <;> first | exact ih ⟨hd.ok.1, hd.ok.2.1⟩ _ (by grind) | grind
  | syBad last cl cd t o e h =>
    intro hm r' h'
    have ks : ∀ t x y, SymR cl X t x → SymR cl X t y → x = y := fun t x y h h' => h.det hm.1 h'
    cases h' <;> grind
  | syEnd last cl cd t o t' r h hr ih =>
    intro hm r' h'
    have ks : ∀ t x y, SymR cl X t x → SymR cl X t y → x = y := fun t x y h h' => h.det hm.1 h'
    cases h' <;> first | exact ih trivial _ (by grind) | grind
  | syBig last cl cd t o s t' h hs hm =>
    intro hm r' h'
    have ks : ∀ t x y, SymR cl X t x → SymR cl X t y → x = y := fun t x y h h' => h.det hm.1 h'
    cases h' <;> grind
  | syPut last cl cd t o s t' r h hs hm hr ih =>
    intro hm r' h'
    have ks : ∀ t x y, SymR cl X t x → SymR cl X t y → x = y := fun t x y h h' => h.det hm.1 h'
    cases h' <;> first | exact ih hm _ (by grind) | grind
  | syRBad last cl cd t o s t' e h hs hp =>
    intro hm r' h'
    have ks : ∀ t x y, SymR cl X t x → SymR cl X t y → x = y := fun t x y h h' => h.det hm.1 h'
    have kr : ∀ t s x y, Rep X most cd t s o x → Rep X most cd t s o y → x = y := fun t s x y h h' => h.det hm.2 h'
    cases h' <;> grind
  | syRep last cl cd t o s t' t2 o2 r h hs hp hr ih =>
    intro hm r' h'
    have ks : ∀ t x y, SymR cl X t x → SymR cl X t y → x = y := fun t x y h h' => h.det hm.1 h'
    have kr : ∀ t s x y, Rep X most cd t s o x → Rep X most cd t s o y → x = y := fun t s x y h h' => h.det hm.2 h'
    cases h' <;> first | exact ih hm _ (by grind) | grind
end Go.Proofs.YtlmeoahcpmikiaaGreatDoor
namespace Go.Proofs.YtlmeoahcpmikiaaGreatDoor
theorem bitsN_take (X : List UInt8) (b t n : Nat) (h : t + n ≤ 8 * b) : bitsN (X.take b) t n = bitsN X t n := by
  unfold bitsN
  rw [le_take, pow256]
  obtain ⟨d, hd⟩ : ∃ d, 8 * b = t + d := ⟨8 * b - t, by omega⟩
  rw [hd, Nat.pow_add, Nat.mod_mul_right_div_self]
  exact Nat.mod_mod_of_dvd _ (Nat.pow_dvd_pow 2 (by omega))
theorem rv_bits (X : List UInt8) (t n : Nat) : rv (bitsFrom X t) n = rv (bitsN X t n) n := by
  unfold bitsFrom bitsN
  exact (rv_mod _ n n (Nat.le_refl _)).symm
/-- Y begins as X does, b bytes -/
structure Same (b : Nat) (X Y : List UInt8) : Prop where
  l : b ≤ X.length
  r : b ≤ Y.length
  eq : X.take b = Y.take b
theorem Same.symm {b : Nat} {X Y : List UInt8} (h : Same b X Y) : Same b Y X := ⟨h.r, h.l, h.eq.symm⟩
theorem Same.bits {b : Nat} {X Y : List UInt8} (h : Same b X Y) {t n : Nat} (hn : t + n ≤ 8 * b) : bitsN X t n = bitsN Y t n := by
  rw [← bitsN_take X b t n hn, h.eq, bitsN_take Y b t n hn]
theorem Same.num {b : Nat} {X Y : List UInt8} (h : Same b X Y) {t n v : Nat} (hn : t + n ≤ 8 * b) (hv : num X t n = some v) : num Y t n = some v := by
  have hl := h.l
  have hr := h.r
  unfold YtlmeoahcpmikiaaGreatDoor.num total at *
  rw [if_pos (by omega)] at hv
  rw [if_pos (by omega), ← h.bits hn]
  exact hv
theorem Same.next {b : Nat} {X Y : List UInt8} (h : Same b X Y) {c : Cd} {t s : Nat} (hn : t + c.ln s ≤ 8 * b) (hs : Next c X t s) : Next c Y t s := by
  have hr := h.r
  obtain ⟨h1, h2, h3, h4⟩ := hs
  refine ⟨h1, h2, by unfold total; omega, ?_⟩
  rw [rv_bits, ← h.bits hn, ← rv_bits]
  exact h4
theorem Same.sym {b : Nat} {X Y : List UInt8} (h : Same b X Y) {c : Cd} {t s t' : Nat} (hn : t' ≤ 8 * b) (hs : SymR c X t (.inr (s, t'))) : SymR c Y t (.inr (s, t')) := by
  cases hs with
  | hit _ hx => exact .hit s (h.next hn hx)
theorem Same.drop {b : Nat} {X Y : List UInt8} (h : Same b X Y) {a n : Nat} (hn : a + n ≤ b) : (X.drop a).take n = (Y.drop a).take n := by
  have e : ∀ Z : List UInt8, (Z.drop a).take n = ((Z.take b).drop a).take n := fun Z => by
    rw [List.drop_take, List.take_take, Nat.min_eq_left (by omega)]
  rw [e X, h.eq, ← e Y]
theorem Same.rep {b : Nat} {X Y : List UInt8} (h : Same b X Y) {most : Nat} {cd : Cd} {t s t' : Nat} {o o' : List UInt8} (hn : t' ≤ 8 * b) (hs : Rep X most cd t s o (.good t' o')) : Rep Y most cd t s o (.good t' o') := by
  cases hs with
  | good x k t2 y h1 hl hd hk hf hb hm =>
    have := hd.lt
    exact .good x k t2 y h1 (h.num (by omega) hl) (h.sym (by omega) hd) hk (h.num (by omega) hf) hb hm
theorem Same.step {b : Nat} {X Y : List UInt8} (h : Same b X Y) {c : Cd} {n t t' : Nat} {l l' : List Nat} (hn : t' ≤ 8 * b) (hs : StepL c X n t l (.inr (t', l'))) : StepL c Y n t l (.inr (t', l')) := by
  cases hs with
  | plain s _ hs h16 => exact .plain s _ (h.sym hn hs) h16
  | good s t2 x hs h16 hl hx hm => exact .good s t2 x (h.sym (by omega) hs) h16 hl (h.num hn hx) hm
theorem Lens.mono {c : Cd} {X : List UInt8} {n t : Nat} {l : List Nat} {r : Nat ⊕ (Nat × List Nat)} (h : Lens c X n t l r) : ∀ t' l', r = .inr (t', l') → t ≤ t' := by
  induction h with
  | done t l h => intro t' l' e; simp at e; omega
  | stop t l e h hs => intro t' l' e; simp at e
  | next t l t1 l1 r h hs hr ih =>
    intro t' l' e
    have := ih t' l' e
    cases hs with
    | plain s _ hs h16 => have := hs.lt; omega
    | good s t2 x hs h16 hl hx hm => have := hs.lt; omega
theorem Same.lens {b : Nat} {X Y : List UInt8} (h : Same b X Y) {c : Cd} {n t : Nat} {l : List Nat} {r : Nat ⊕ (Nat × List Nat)} (hs : Lens c X n t l r) : ∀ t' l', r = .inr (t', l') → t' ≤ 8 * b → Lens c Y n t l (.inr (t', l')) := by
  induction hs with
  | done t l h2 =>
    intro t' l' e hn
    simp only [Sum.inr.injEq, Prod.mk.injEq] at e
    obtain ⟨rfl, rfl⟩ := e
    exact .done _ _ h2
  | stop t l e h hs => intro t' l' e; simp at e
  | next t l t1 l1 r h2 hs hr ih =>
    intro t' l' e hn
    have := hr.mono _ _ e
    exact .next t l t1 l1 _ h2 (h.step (by omega) hs) (ih t' l' e hn)
theorem firstCd_same {b : Nat} {X Y : List UInt8} (h : Same b X Y) {t nc : Nat} (hn : t + 3 * nc ≤ 8 * b) : firstCd X t nc = firstCd Y t nc := by
  unfold firstCd
  congr 1
  funext s
  split
  · rename_i hc
    exact h.bits (by omega)
  · rfl
theorem Same.dyn {b : Nat} {X Y : List UInt8} (h : Same b X Y) {t t' : Nat} {cl cd : Cd} (hn : t' ≤ 8 * b) (hs : Dyn X t (.inr (cl, cd, t'))) : Dyn Y t (.inr (cl, cd, t')) := by
  cases hs with
  | good v _ l h1 hc hf hn1 hl hu =>
    have hm := hl.mono _ _ rfl
    have hfc : firstCd X (t + 14) (4 + v / 1024) = firstCd Y (t + 14) (4 + v / 1024) := firstCd_same h (by omega)
    have hr := h.r
    rw [hfc] at hn1 hl
    exact .good v t' l (h.num (by omega) h1) hc (by unfold total; omega) hn1 (h.lens hl _ _ rfl hn) hu
theorem Same.stored {b : Nat} {X Y : List UInt8} (h : Same b X Y) {most t t' : Nat} {o o' : List UInt8} (hn : t' ≤ 8 * b) (hs : storedR X most t o = .good t' o') : storedR Y most t o = .good t' o' := by
  have hl := h.l
  have hr := h.r
  unfold storedR at hs ⊢
  simp only at hs ⊢
  split at hs
  · cases hs
  · split at hs
    · cases hs
    · split at hs
      · cases hs
      · split at hs
        · cases hs
        · rename_i g1 g2 g3 g4
          simp only [Res.good.injEq] at hs
          obtain ⟨rfl, rfl⟩ := hs
          have e1 : (X.drop ((t + 7) / 8)).take 2 = (Y.drop ((t + 7) / 8)).take 2 := h.drop (by omega)
          have e2 : (X.drop ((t + 7) / 8 + 2)).take 2 = (Y.drop ((t + 7) / 8 + 2)).take 2 := h.drop (by omega)
          rw [e1] at hn g3 g4 ⊢
          rw [e1, e2] at g2
          have e3 := h.drop (a := (t + 7) / 8 + 4) (n := le ((Y.drop ((t + 7) / 8)).take 2)) (by omega)
          rw [if_neg (by omega), if_neg g2, if_neg (by omega), if_neg (by omega), e3]
theorem Run.mono {X : List UInt8} {most : Nat} {m : Mode} {t : Nat} {o : List UInt8} {r : Res} (h : Run X most m t o r) : ∀ t' o', r = .good t' o' → t ≤ t' := by
  induction h with
  | fin t o => intro t' o' e; simp at e; omega
  | head6 => intro t' o' e; cases e
  | kind3 => intro t' o' e; cases e
  | stBad => intro t' o' e; cases e
  | st t o v t1 o1 r h hk hs hr ih =>
    intro t' o' e
    have := ih t' o' e
    unfold storedR at hs
    simp only at hs
    split at hs
    · cases hs
    · split at hs
      · cases hs
      · split at hs
        · cases hs
        · split at hs
          · cases hs
          · simp only [Res.good.injEq] at hs
            omega
  | fx t o v r h hk hr ih => intro t' o' e; have := ih t' o' e; omega
  | dyBad => intro t' o' e; cases e
  | dy t o v cl cd t1 r h hk hd hr ih => intro t' o' e; have := ih t' o' e; have := hd.ok.2.2; omega
  | syBad => intro t' o' e; cases e
  | syEnd last cl cd t o t1 r h hr ih => intro t' o' e; have := ih t' o' e; have := h.lt; omega
  | syBig => intro t' o' e; cases e
  | syPut last cl cd t o s t1 r h hs hm hr ih => intro t' o' e; have := ih t' o' e; have := h.lt; omega
  | syRBad => intro t' o' e; cases e
  | syRep last cl cd t o s t1 t2 o2 r h hs hp hr ih =>
    intro t' o' e
    have := ih t' o' e
    have := h.lt
    cases hp with
    | good x k t3 y h1 hl hd hk hf hb hm => have := hd.lt; omega
theorem stored_mono {X : List UInt8} {most t t' : Nat} {o o' : List UInt8} (hs : storedR X most t o = .good t' o') : t ≤ t' ∧ t' ≤ total X ∧ o'.length ≤ most := by
  unfold storedR at hs
  simp only at hs
  split at hs
  · cases hs
  · split at hs
    · cases hs
    · split at hs
      · cases hs
      · split at hs
        · cases hs
        · simp only [Res.good.injEq] at hs
          obtain ⟨rfl, rfl⟩ := hs
          refine ⟨by omega, by unfold total; omega, ?_⟩
          rw [List.length_append, List.length_take, List.length_drop]
          omega
/-- what a stream says hangs on its own bytes alone -/
theorem Same.run {b : Nat} {X Y : List UInt8} (h : Same b X Y) {most : Nat} {m : Mode} {t : Nat} {o : List UInt8} {r : Res} (hr : Run X most m t o r) : ∀ t' o', r = .good t' o' → t' ≤ 8 * b → Run Y most m t o (.good t' o') := by
  induction hr with
  | fin t o => intro t' o' e hn; cases e; exact .fin _ _
  | head6 => intro t' o' e; cases e
  | kind3 => intro t' o' e; cases e
  | stBad => intro t' o' e; cases e
  | st t o v t1 o1 r h1 hk hs hr ih =>
    intro t' o' e hn
    have := hr.mono _ _ e
    have := (stored_mono hs).1
    exact .st t o v t1 o1 _ (h.num (by omega) h1) hk (h.stored (by omega) hs) (ih t' o' e hn)
  | fx t o v r h1 hk hr ih =>
    intro t' o' e hn
    have := hr.mono _ _ e
    exact .fx t o v _ (h.num (by omega) h1) hk (ih t' o' e hn)
  | dyBad => intro t' o' e; cases e
  | dy t o v cl cd t1 r h1 hk hd hr ih =>
    intro t' o' e hn
    have := hr.mono _ _ e
    have := hd.ok.2.2
    exact .dy t o v cl cd t1 _ (h.num (by omega) h1) hk (h.dyn (by omega) hd) (ih t' o' e hn)
  | syBad => intro t' o' e; cases e
  | syEnd last cl cd t o t1 r h1 hr ih =>
    intro t' o' e hn
    have := hr.mono _ _ e
    exact .syEnd last cl cd t o t1 _ (h.sym (by omega) h1) (ih t' o' e hn)
  | syBig => intro t' o' e; cases e
  | syPut last cl cd t o s t1 r h1 hs hm hr ih =>
    intro t' o' e hn
    have := hr.mono _ _ e
    exact .syPut last cl cd t o s t1 _ (h.sym (by omega) h1) hs hm (ih t' o' e hn)
  | syRBad => intro t' o' e; cases e
  | syRep last cl cd t o s t1 t2 o2 r h1 hs hp hr ih =>
    intro t' o' e hn
    have := hr.mono _ _ e
    have hlt : t1 ≤ t2 := by
      cases hp with
      | good x k t3 y _ hl hd hk hf hb hm => have := hd.lt; omega
    exact .syRep last cl cd t o s t1 t2 o2 _ (h.sym (by omega) h1) hs (h.rep (by omega) hp) (ih t' o' e hn)
end Go.Proofs.YtlmeoahcpmikiaaGreatDoor
namespace Go.Proofs.YtlmeoahcpmikiaaGreatDoor
/-- a greater limit changes nothing of what was read within a smaller one -/
theorem limit_rep {X : List UInt8} {most more : Nat} (hm : most ≤ more) {cd : Cd} {t s : Nat} {o : List UInt8} {r : Res} (h : Rep X most cd t s o r) (h2 : r ≠ .bad 2) : Rep X more cd t s o r := by
  cases h with
  | high h => exact .high h
  | len6 h hl => exact .len6 h hl
  | dist x e h hl hd => exact .dist x e h hl hd
  | dhigh x k t2 h hl hd hk => exact .dhigh x k t2 h hl hd hk
  | dist6 x k t2 h hl hd hk hf => exact .dist6 x k t2 h hl hd hk hf
  | far x k t2 y h hl hd hk hf hb => exact .far x k t2 y h hl hd hk hf hb
  | big => exact absurd rfl h2
  | good x k t2 y h hl hd hk hf hb hm2 => exact .good x k t2 y h hl hd hk hf hb (by omega)
theorem limit_stored {X : List UInt8} {most more : Nat} (hm : most ≤ more) {t : Nat} {o : List UInt8} (h2 : storedR X most t o ≠ .bad 2) : storedR X more t o = storedR X most t o := by
  unfold storedR at h2 ⊢
  simp only at h2 ⊢
  split
  · rfl
  · split
    · rfl
    · rename_i g1 g2
      rw [if_neg g1, if_neg g2] at h2
      by_cases g3 : most < o.length + min (le ((X.drop ((t + 7) / 8)).take 2)) (X.length - ((t + 7) / 8 + 4))
      · rw [if_pos g3] at h2; exact absurd rfl h2
      · rw [if_neg g3, if_neg (by omega)]
theorem limit_run {X : List UInt8} {most more : Nat} (hm : most ≤ more) {m : Mode} {t : Nat} {o : List UInt8} {r : Res} (h : Run X most m t o r) : r ≠ .bad 2 → Run X more m t o r := by
  induction h with
  | fin t o => intro _; exact .fin t o
  | head6 t o h => intro _; exact .head6 t o h
  | kind3 t o v h hk => intro _; exact .kind3 t o v h hk
  | stBad t o v e h hk hs => intro h2; exact .stBad t o v e h hk (by rw [limit_stored hm (by rw [hs]; exact h2)]; exact hs)
  | st t o v t1 o1 r h hk hs hr ih => intro h2; exact .st t o v t1 o1 r h hk (by rw [limit_stored hm (by rw [hs]; simp)]; exact hs) (ih h2)
  | fx t o v r h hk hr ih => intro h2; exact .fx t o v r h hk (ih h2)
  | dyBad t o v e h hk hd => intro _; exact .dyBad t o v e h hk hd
  | dy t o v cl cd t1 r h hk hd hr ih => intro h2; exact .dy t o v cl cd t1 r h hk hd (ih h2)
  | syBad last cl cd t o e h => intro _; exact .syBad last cl cd t o e h
  | syEnd last cl cd t o t1 r h hr ih => intro h2; exact .syEnd last cl cd t o t1 r h (ih h2)
  | syBig => intro h2; exact absurd rfl h2
  | syPut last cl cd t o s t1 r h hs hm2 hr ih => intro h2; exact .syPut last cl cd t o s t1 r h hs (by omega) (ih h2)
  | syRBad last cl cd t o s t1 e h hs hp => intro h2; exact .syRBad last cl cd t o s t1 e h hs (limit_rep hm hp (by simpa using h2))
  | syRep last cl cd t o s t1 t2 o2 r h hs hp hr ih => intro h2; exact .syRep last cl cd t o s t1 t2 o2 r h hs (limit_rep hm hp (by simp)) (ih h2)
theorem again_len (o : List UInt8) (d n : Nat) : (again o d n).length = o.length + n := by
  induction n with
  | zero => rfl
  | succ n ih => rw [again, List.length_append, ih]; rfl
end Go.Proofs.YtlmeoahcpmikiaaGreatDoor
namespace Go.Proofs.YtlmeoahcpmikiaaGreatDoor
/-- one stored block: its mark, its length, the length turned, its bytes -/
def storedB (last : Nat) (s : List UInt8) : List UInt8 := [UInt8.ofNat last, UInt8.ofNat (s.length % 256), UInt8.ofNat (s.length / 256), UInt8.ofNat (255 - s.length % 256), UInt8.ofNat (255 - s.length / 256)] ++ s
theorem le_two (a b : UInt8) : le [a, b] = a.toNat + 256 * b.toNat := by simp [le]
theorem ofNat_nat (n : Nat) (h : n < 256) : (UInt8.ofNat n).toNat = n := by simp [UInt8.toNat_ofNat']; omega
theorem stored_ok (last : Nat) (s rest o : List UInt8) (most : Nat) (hs : s.length < 65536) (hm : o.length + s.length ≤ most) : storedR (storedB last s ++ rest) most 3 o = .good (8 * (5 + s.length)) (o ++ s) := by
  have e1 : (((storedB last s ++ rest).drop 1).take 2) = [UInt8.ofNat (s.length % 256), UInt8.ofNat (s.length / 256)] := by simp [storedB]
  have e2 : (((storedB last s ++ rest).drop 3).take 2) = [UInt8.ofNat (255 - s.length % 256), UInt8.ofNat (255 - s.length / 256)] := by simp [storedB]
  have n1 : le [UInt8.ofNat (s.length % 256), UInt8.ofNat (s.length / 256)] = s.length := by rw [le_two, ofNat_nat _ (by omega), ofNat_nat _ (by omega)]; omega
  have n2 : le [UInt8.ofNat (255 - s.length % 256), UInt8.ofNat (255 - s.length / 256)] = 65535 - s.length := by rw [le_two, ofNat_nat _ (by omega), ofNat_nat _ (by omega)]; omega
  have e3 : ((storedB last s ++ rest).drop 5).take s.length = s := by simp [storedB]
  have hl : (storedB last s ++ rest).length = 5 + s.length + rest.length := by simp [storedB]; omega
  unfold storedR
  simp only [show (3 + 7) / 8 = 1 by decide]
  rw [e1, e2, n1, n2, hl, if_neg (by omega), if_neg (by omega), if_neg (by omega), if_neg (by omega), e3]
theorem stored_head (last : Nat) (hl : last < 2) (s rest : List UInt8) : num (storedB last s ++ rest) 0 3 = some last := by
  unfold num total
  rw [if_pos (by simp [storedB]; omega)]
  congr 1
  unfold bitsN storedB
  simp only [List.cons_append, le, Nat.pow_zero, Nat.div_one]
  rw [ofNat_nat _ (by omega)]
  omega
/-- a stored stream says its text -/
theorem run_stored (s rest : List UInt8) (most : Nat) (hs : s.length < 65536) (hm : s.length ≤ most) : Run (storedB 1 s ++ rest) most (.blk false) 0 [] (.good (8 * (5 + s.length)) s) := by
  have h1 := stored_ok 1 s rest [] most hs (by simpa using hm)
  simp only [List.nil_append] at h1
  exact .st 0 [] 1 _ _ _ (stored_head 1 (by decide) s rest) (by decide) h1 (.fin _ _)
end Go.Proofs.YtlmeoahcpmikiaaGreatDoor
namespace Go.Proofs.YtlmeoahcpmikiaaGreatDoor
open Go.RowKit
/-- a stream that is being read: its reader, what came out, the limit, is the block the last one, the sets -/
def SBox (w : World) (db rb : Nat) (v : Value) (most : Nat) (last : Bool) (p1 p2 p3 p4 : Value) : Prop :=
  w.heap[db]? = some (.cells #[.pointer (some ⟨rb, 0, none⟩), v, .int .i64 (most : Int), .bool last, p1, p2, p3, p4] 338 (0, 0))
section
variable {w w' : World} {db rb most : Nat} {v p1 p2 p3 p4 : Value} {last : Bool}
theorem SBox.c0 (h : SBox w db rb v most last p1 p2 p3 p4) : w.cell? ⟨db, 0, none⟩ = some (.pointer (some ⟨rb, 0, none⟩)) := by rw [cell_of_row w db _ _ 338 (0, 0) h]; rfl
theorem SBox.c1 (h : SBox w db rb v most last p1 p2 p3 p4) : w.cell? ⟨db, 1, none⟩ = some v := by rw [cell_of_row w db _ _ 338 (0, 0) h]; rfl
theorem SBox.c2 (h : SBox w db rb v most last p1 p2 p3 p4) : w.cell? ⟨db, 2, none⟩ = some (.int .i64 (most : Int)) := by rw [cell_of_row w db _ _ 338 (0, 0) h]; rfl
theorem SBox.c3 (h : SBox w db rb v most last p1 p2 p3 p4) : w.cell? ⟨db, 3, none⟩ = some (.bool last) := by rw [cell_of_row w db _ _ 338 (0, 0) h]; rfl
theorem SBox.c4 (h : SBox w db rb v most last p1 p2 p3 p4) : w.cell? ⟨db, 4, none⟩ = some p1 := by rw [cell_of_row w db _ _ 338 (0, 0) h]; rfl
theorem SBox.c5 (h : SBox w db rb v most last p1 p2 p3 p4) : w.cell? ⟨db, 5, none⟩ = some p2 := by rw [cell_of_row w db _ _ 338 (0, 0) h]; rfl
theorem SBox.c6 (h : SBox w db rb v most last p1 p2 p3 p4) : w.cell? ⟨db, 6, none⟩ = some p3 := by rw [cell_of_row w db _ _ 338 (0, 0) h]; rfl
theorem SBox.c7 (h : SBox w db rb v most last p1 p2 p3 p4) : w.cell? ⟨db, 7, none⟩ = some p4 := by rw [cell_of_row w db _ _ 338 (0, 0) h]; rfl
theorem SBox.fz (h : SBox w db rb v most last p1 p2 p3 p4) (j : Nat) : w.frozen? ⟨db, j, none⟩ = false := frozen_of_row w db j _ 338 h
theorem SBox.lt (h : SBox w db rb v most last p1 p2 p3 p4) : db < w.heap.size := (Array.getElem?_eq_some_iff.1 h).1
theorem SBox.same (h : SBox w db rb v most last p1 p2 p3 p4) (hh : w'.heap[db]? = w.heap[db]?) : SBox w' db rb v most last p1 p2 p3 p4 := hh.trans h
theorem SBox.set1 (h : SBox w db rb v most last p1 p2 p3 p4) (u : Value) : SBox (w.setCell ⟨db, 1, none⟩ u) db rb u most last p1 p2 p3 p4 := by unfold SBox; rw [heap_setCell_same w db _ _ 338 _ h]; rfl
theorem SBox.set3 (h : SBox w db rb v most last p1 p2 p3 p4) (b : Bool) : SBox (w.setCell ⟨db, 3, none⟩ (.bool b)) db rb v most b p1 p2 p3 p4 := by unfold SBox; rw [heap_setCell_same w db _ _ 338 _ h]; rfl
theorem SBox.set4 (h : SBox w db rb v most last p1 p2 p3 p4) (u : Value) : SBox (w.setCell ⟨db, 4, none⟩ u) db rb v most last u p2 p3 p4 := by unfold SBox; rw [heap_setCell_same w db _ _ 338 _ h]; rfl
theorem SBox.set5 (h : SBox w db rb v most last p1 p2 p3 p4) (u : Value) : SBox (w.setCell ⟨db, 5, none⟩ u) db rb v most last p1 u p3 p4 := by unfold SBox; rw [heap_setCell_same w db _ _ 338 _ h]; rfl
end
/-- what bits answers -/
def BitsPost (X : ByteArray) (t n rb : Nat) (e : Ending) (w' : World) : Prop :=
  (∃ x, num X.data.toList t n = some x ∧ x < 2 ^ n ∧ e = .returned (.tuple #[.int .i64 (x : Int), .int .i64 0]) ∧ RBox w' rb X (t + n)) ∨
  (num X.data.toList t n = none ∧ e = .returned (.tuple #[.int .i64 0, .int .i64 6]) ∧ RBox w' rb X t)
theorem total_size (X : ByteArray) : total X.data.toList = 8 * X.size := by show 8 * X.data.toList.length = 8 * X.data.size; rw [Array.length_toList]
theorem num_yes {X : ByteArray} {t n l : Nat} (hl : t + l = 8 * X.size) (h : n ≤ l) : num X.data.toList t n = some (bitsN X.data.toList t n) := by
  unfold num; rw [total_size, if_pos (by omega)]
theorem num_no {X : ByteArray} {t n l : Nat} (hl : t + l = 8 * X.size) (h : l < n) : num X.data.toList t n = none := by
  unfold num; rw [total_size, if_neg (by omega)]
set_option maxHeartbeats 1000000 in
set_option maxRecDepth 100000 in
theorem sbits_any (db rb : Nat) (X : ByteArray) (t l n : Nat) (w : World) (hS : w.cell? ⟨db, 0, none⟩ = some (.pointer (some ⟨rb, 0, none⟩))) (hr : RBox w rb X t) (hX : X.size ≤ 100000000000) (hl : t + l = 8 * X.size) (hn : n ≤ 32) :
    Calls Tryz.prog 299 #[.pointer (some ⟨db, 0, none⟩), .int .i64 n] w fun e w' => BitsPost X t n rb e w' ∧ Only rb w w' := by
  have HR := hidM hr
  have HL := hidM hl
  clear hr hl
  go_enter Tryz.func299, Tryz.ntmps299
  by_cases hk : n ≤ l
  · have HN := hidM (num_yes HL.out hk)
    have HLT := hidM (bitsN_lt X.data.toList t n)
    have hlt : bitsN X.data.toList t n < 4294967296 := Nat.lt_of_lt_of_le HLT.out (by have : 2 ^ n ≤ 2 ^ 32 := Nat.pow_le_pow_right (by decide) hn; omega)
    have HB := hidM (bits_yes rb X t l n w HR.out hX HL.out hn hk)
    generalize bitsN X.data.toList t n = x at *
    go_wp2_with fail
    refine HB.out.mono ?_
    rintro e w1 ⟨rfl, m, rfl⟩
    have HRX := hidM (HR.out.put m n)
    have HOX : Hid (Only rb w ((w.drewN m).setCell ⟨rb, 1, none⟩ (.int .i64 ((t + n : Nat) : Int)))) := ((Only.refl rb w).drewN m).setCell _ _
    generalize (w.drewN m).setCell ⟨rb, 1, none⟩ (.int .i64 ((t + n : Nat) : Int)) = w1 at *
    go_wp2
    go_ret2
    exact ⟨.inl ⟨x, HN.out, HLT.out, rfl, HRX.out⟩, HOX.out⟩
  · have HN := hidM (num_no HL.out (Nat.lt_of_not_le hk))
    have HB := hidM (bits_no rb X t l n w HR.out hX HL.out hn (Nat.lt_of_not_le hk))
    go_wp2_with fail
    refine HB.out.mono ?_
    rintro e w1 ⟨rfl, m, rfl⟩
    go_wp2
    go_ret2
    exact ⟨.inr ⟨HN.out, rfl, HR.out.drewN m⟩, (Only.refl rb w).drewN m⟩
theorem and_one (x : Nat) : bits .and .i64 (x : Int) 1 = ((x % 2 : Nat) : Int) ∨ ¬ x < 8 := by
  by_cases h : x < 8
  · left
    have : ∀ y : Fin 8, bits .and .i64 ((y.val : Nat) : Int) 1 = ((y.val % 2 : Nat) : Int) := by decide +kernel
    exact this ⟨x, h⟩
  · exact .inr h
/-- what readHead answers -/
def HeadPost (X : ByteArray) (t rb db : Nat) (v : Value) (most : Nat) (p1 p2 p3 p4 : Value) (e : Ending) (w' : World) : Prop :=
  (∃ x, num X.data.toList t 3 = some x ∧ x < 8 ∧ e = .returned (.tuple #[.int .i64 ((x / 2 : Nat) : Int), .int .i64 0]) ∧ RBox w' rb X (t + 3) ∧ SBox w' db rb v most (x % 2 == 1) p1 p2 p3 p4) ∨
  (num X.data.toList t 3 = none ∧ e = .returned (.tuple #[.int .i64 0, .int .i64 6]))
/-- of all memory blocks a and b alone may have turned; no block is new -/
structure Only2 (a b : Nat) (w w' : World) : Prop where
  os : w'.os = w.os
  tape : w'.tape = w.tape
  output : w'.output = w.output
  size : w'.heap.size = w.heap.size
  block : ∀ k, k ≠ a → k ≠ b → w'.heap[k]? = w.heap[k]?
theorem Only2.below {a b B : Nat} {w w' : World} (h : Only2 a b w w') (ha : B ≤ a) (hb : B ≤ b) : Below B w w' :=
  ⟨h.os, h.tape, h.output, by rw [h.size]; exact Nat.le_refl _, fun k hk => h.block k (by omega) (by omega)⟩
theorem Only.two {a b : Nat} {w w' : World} (h : Only a w w') : Only2 a b w w' := ⟨h.os, h.tape, h.output, h.size, fun k ha _ => h.block k ha⟩
theorem Only2.set {a b o : Nat} {w w' : World} (h : Only2 a b w w') (u : Value) : Only2 a b w (w'.setCell ⟨b, o, none⟩ u) :=
  ⟨h.os, h.tape, h.output, by simpa using h.size, fun k ha hb => (Below.heap_setCell w' ⟨b, o, none⟩ u k hb).trans (h.block k ha hb)⟩
set_option maxHeartbeats 1000000 in
set_option maxRecDepth 100000 in
theorem readHead_any (db rb : Nat) (X : ByteArray) (t l most : Nat) (v p1 p2 p3 p4 : Value) (last : Bool) (w : World) (hne : rb ≠ db) (hS : SBox w db rb v most last p1 p2 p3 p4) (hr : RBox w rb X t) (hX : X.size ≤ 100000000000) (hl : t + l = 8 * X.size) :
    Calls Tryz.prog 283 #[.pointer (some ⟨db, 0, none⟩)] w fun e w' => HeadPost X t rb db v most p1 p2 p3 p4 e w' ∧ Only2 rb db w w' := by
  have HS := hidM hS
  have HB := hidM (sbits_any db rb X t l 3 w hS.c0 hr hX hl (by decide))
  clear hS hr hl
  go_enter Tryz.func283, Tryz.ntmps283
  go_wp2_with fail
  refine HB.out.mono ?_
  rintro _ w1 ⟨hp, ho⟩
  have HS1 : Hid (SBox w1 db rb v most last p1 p2 p3 p4) := HS.out.same (ho.block db (fun e => hne e.symm))
  have HO := hidM ho
  have c3 := HS1.out.c3
  have f3 := HS1.out.fz 3
  clear ho
  rcases hp with ⟨x, hx, hlt, rfl, hrx⟩ | ⟨hx, rfl, hrx⟩
  · have HX := hidM hx
    have HRX := hidM hrx
    have hlt8 : x < 8 := hlt
    have e1 : bits .and .i64 (x : Int) 1 = ((x % 2 : Nat) : Int) := (and_one x).resolve_right (fun h => h hlt8)
    clear hx hrx hlt
    obtain ⟨y, hy⟩ : ∃ y, y = x % 2 := ⟨_, rfl⟩
    obtain ⟨z, hz⟩ : ∃ z, z = x / 2 := ⟨_, rfl⟩
    have e2 : (x : Int) / 2 = (z : Int) := by omega
    have y2 : y < 2 := by omega
    have HBL : Hid ((x % 2 == 1) = decide ((y : Int) = 1)) := by
      unfold Hid; rw [← hy]
      by_cases h : y = 1
      · subst h; rfl
      · have : y = 0 := by omega
        subst this; rfl
    have HZ : Hid (((x / 2 : Nat) : Int) = (z : Int)) := by unfold Hid; rw [hz]
    rw [← hy] at e1
    clear hy hz
    go_wp2
    go_ret2
    refine ⟨.inl ⟨x, HX.out, hlt8, ?_, (HRX.out.same (Below.heap_setCell w1 ⟨db, 3, none⟩ _ rb hne)), ?_⟩, HO.out.two.set _⟩
    · rw [HZ.out]; rfl
    · rw [HBL.out]
      exact HS1.out.set3 _
  · have HX := hidM hx
    clear hx hrx
    go_wp2
    go_ret2
    exact ⟨.inr ⟨HX.out, rfl⟩, HO.out.two.set _⟩
set_option maxRecDepth 100000 in
theorem room_any (db rb : Nat) (most : Nat) (a : Option Addr) (n cap : Nat) (p1 p2 p3 p4 : Value) (last : Bool) (w : World) (hS : SBox w db rb (.slice a n cap) most last p1 p2 p3 p4) (hm : most ≤ 65536) (hn : n ≤ most) :
    Calls Tryz.prog 303 #[.pointer (some ⟨db, 0, none⟩)] w fun e w' => e = .returned (.int .i64 ((most - n : Nat) : Int)) ∧ ∃ m, w' = w.drewN m := by
  have c1 := hS.c1
  have c2 := hS.c2
  obtain ⟨d, hd⟩ : ∃ d, d = most - n := ⟨_, rfl⟩
  have e1 : (most : Int) - (n : Int) = (d : Int) := by omega
  rw [← hd]
  clear hd
  go_enter Tryz.func303, Tryz.ntmps303
  go_wp2
  go_quiet (fail)
  go_wp2
  go_ret
  exact ⟨rfl, _, rfl⟩
end Go.Proofs.YtlmeoahcpmikiaaGreatDoor
namespace Go.Proofs.YtlmeoahcpmikiaaGreatDoor
open Go.RowKit
/-- a stream's state: reader at B, box at B + 1, what came out in a row behind them -/
structure StS (w : World) (B : Nat) (X : ByteArray) (t most : Nat) (last : Bool) (v : Value) (o : List UInt8) (p1 p2 p3 p4 : Value) : Prop where
  rd : RBox w B X t
  box : SBox w (B + 1) B v most last p1 p2 p3 p4
  own : OwnB w (B + 2) v o
/-- what a step leaves as it was: all below B; behind the box all that is no row of bytes -/
structure Kept (B : Nat) (w w' : World) : Prop where
  below : Below B w w'
  keep : ∀ k, B + 2 ≤ k → k < w.heap.size → (∀ cur fr, w.heap[k]? ≠ some (.cells cur 5 fr)) → w'.heap[k]? = w.heap[k]?
theorem Kept.refl (B : Nat) (w : World) : Kept B w w := ⟨Below.refl _ _, fun _ _ _ _ => rfl⟩
theorem Kept.trans {B : Nat} {w w' w'' : World} (h : Kept B w w') (k : Kept B w' w'') : Kept B w w'' :=
  ⟨h.below.trans k.below, fun i h1 h2 h3 => by
    have a := h.keep i h1 h2 h3
    exact (k.keep i h1 (Nat.lt_of_lt_of_le h2 h.below.size) (fun cur fr => by rw [a]; exact h3 cur fr)).trans a⟩
theorem Only2.kept {B : Nat} {w w' : World} (h : Only2 B (B + 1) w w') : Kept B w w' :=
  ⟨h.below (Nat.le_refl _) (by omega), fun k h1 _ _ => h.block k (by omega) (by omega)⟩
theorem Only.kept {B : Nat} {w w' : World} (h : Only B w w') : Kept B w w' := (h.two (b := B + 1)).kept
theorem kept_of_below {B : Nat} {w w' : World} (h : Below w.heap.size w w') (hB : B ≤ w.heap.size) : Kept B w w' := ⟨h.mono hB, fun k _ h2 _ => h.block k h2⟩
theorem OwnB.shape {w : World} {B : Nat} {v : Value} {l : List UInt8} (h : OwnB w B v l) : ∃ a c, v = .slice a l.length c := by
  rcases h.2 with ⟨hnil, hn⟩ | ⟨g, cap, cur, rfl, _⟩
  · exact ⟨none, 0, by rw [hnil, hn]⟩
  · exact ⟨_,_, rfl⟩
theorem own_slice {w : World} {B e s n : Nat} {v : Value} {xs : List Value} (h : w.ownsRow B e s v n xs) : ∃ a c, v = .slice a n c := by
  rcases h.2 with ⟨hnil, hn⟩ | ⟨g, cap, cur, rfl, _⟩
  · exact ⟨none, 0, by rw [hnil, hn]⟩
  · exact ⟨_,_, rfl⟩
theorem OwnB.same {w w' : World} {B : Nat} {v : Value} {l : List UInt8} (h : OwnB w B v l) (hh : ∀ g, v.ownBlock = some g → w'.heap[g]? = w.heap[g]?) : OwnB w' B v l := by
  refine ⟨h.1, ?_⟩
  rcases h.2 with h0 | ⟨g, cap, cur, hv, hg, hc, hr⟩
  · exact .inl h0
  · exact .inr ⟨g, cap, cur, hv, hg, by rw [hh g (by rw [hv]; rfl)]; exact hc, hr⟩
theorem OwnB.ge {w : World} {B : Nat} {v : Value} {l : List UInt8} (h : OwnB w B v l) {g : Nat} (hg : v.ownBlock = some g) : B ≤ g ∧ g < w.heap.size := World.ownsRow.lt h g hg
/-- a step that turns the reader alone -/
theorem StS.read {w w' : World} {B : Nat} {X : ByteArray} {t most : Nat} {last : Bool} {v : Value} {o : List UInt8} {p1 p2 p3 p4 : Value} (h : StS w B X t most last v o p1 p2 p3 p4) {t' : Nat} (hr : RBox w' B X t') (ho : Only B w w') : StS w' B X t' most last v o p1 p2 p3 p4 :=
  ⟨hr, h.box.same (ho.block (B + 1) (by omega)), h.own.same fun g hg => ho.block g (by have := (h.own.ge hg).1; omega)⟩
theorem StS.two {w w' : World} {B : Nat} {X : ByteArray} {t most : Nat} {last last' : Bool} {v : Value} {o : List UInt8} {p1 p2 p3 p4 q1 q2 q3 q4 : Value} (h : StS w B X t most last v o p1 p2 p3 p4) {t' : Nat} (hr : RBox w' B X t') (hb : SBox w' (B + 1) B v most last' q1 q2 q3 q4) (ho : Only2 B (B + 1) w w') : StS w' B X t' most last' v o q1 q2 q3 q4 :=
  ⟨hr, hb, h.own.same fun g hg => ho.block g (by have := (h.own.ge hg).1; omega) (by have := (h.own.ge hg).1; omega)⟩
/-- what put answers -/
def PutPost (B : Nat) (X : ByteArray) (t most : Nat) (last : Bool) (o l : List UInt8) (p1 p2 p3 p4 : Value) (w : World) (e : Ending) (w' : World) : Prop :=
  (most < o.length + l.length ∧ e = .returned (.int .i64 2) ∧ Below B w w') ∨
  (o.length + l.length ≤ most ∧ e = .returned (.int .i64 0) ∧ ∃ v', StS w' B X t most last v' (o ++ l) p1 p2 p3 p4 ∧ Kept B w w')
theorem info5_parts : ∃ i, Tryz.prog.info? 5 = some i ∧ i.zero = some (.int .u8 0) ∧ i.size = 1 ∧ i.bytes = 1 := info_parts Tryz.info5
/-- a row grew by an append: the box takes it -/
theorem StS.grow {w0 w w1 : World} {B : Nat} {X : ByteArray} {t most : Nat} {last : Bool} {v v' : Value} {o l : List UInt8} {p1 p2 p3 p4 : Value} (h : StS w0 B X t most last v o p1 p2 p3 p4) (hb : Below w0.heap.size w0 w) (hg : w.grownBy w1 v.ownBlock)
    (hown : w1.ownsRow (B + 2) 5 1 v' (o.length + l.length) (bytesV o ++ bytesV l)) :
    (w1.cell? ⟨B + 1, 1, none⟩ = some v ∧ w1.frozen? ⟨B + 1, 1, none⟩ = false) ∧ StS (w1.setCell ⟨B + 1, 1, none⟩ v') B X t most last v' (o ++ l) p1 p2 p3 p4 ∧ Kept B w0 (w1.setCell ⟨B + 1, 1, none⟩ v') := by
  have hlt := h.box.lt
  have hrt := h.rd.lt
  have hsz := hb.size
  have far : ∀ k, k < w0.heap.size → some k ≠ v.ownBlock → w1.heap[k]? = w0.heap[k]? := fun k h1 h2 => (hg.block k (by omega) h2).trans (hb.block k h1)
  have n1 : some (B + 1) ≠ v.ownBlock := fun e => by have := (h.own.ge e.symm).1; omega
  have n0 : some B ≠ v.ownBlock := fun e => by have := (h.own.ge e.symm).1; omega
  have b1 : SBox w1 (B + 1) B v most last p1 p2 p3 p4 := h.box.same (far _ hlt n1)
  have r1 : RBox w1 B X t := h.rd.same (far _ hrt n0)
  rw [← bytesV_app, ← List.length_append] at hown
  refine ⟨⟨b1.c1, b1.fz 1⟩, ⟨r1.same (Below.heap_setCell w1 ⟨B + 1, 1, none⟩ v' B (by show B ≠ B + 1; omega)), b1.set1 v', ownsRow_setCell_below hown (show B + 1 < B + 2 by omega) v'⟩, ?_, ?_⟩
  · refine ⟨?_, ?_, ?_, ?_, fun k hk => ?_⟩
    · exact hg.os.trans hb.os
    · exact hg.tape.trans hb.tape
    · exact hg.output.trans hb.output
    · have := hg.size; simp; omega
    · rw [Below.heap_setCell w1 ⟨B + 1, 1, none⟩ v' k (by show k ≠ B + 1; omega)]
      exact far k (by omega) (fun e => by have := (h.own.ge e.symm).1; omega)
  · intro k h1 h2 h3
    refine (Below.heap_setCell w1 ⟨B + 1, 1, none⟩ v' k (by show k ≠ B + 1; omega)).trans (far k h2 fun e => ?_)
    rcases h.own.2 with ⟨h0, _⟩ | ⟨g, cap, cur, hv, _, hc, _⟩
    · rw [h0] at e; simp [Value.ownBlock] at e
    · rw [hv] at e
      simp only [Value.ownBlock, Option.some.injEq] at e
      subst e
      exact h3 cur (0, 0) hc
set_option maxHeartbeats 1000000 in
set_option maxRecDepth 100000 in
theorem put_any (B : Nat) (X : ByteArray) (t most : Nat) (last : Bool) (v : Value) (o : List UInt8) (c : UInt8) (p1 p2 p3 p4 : Value) (w : World) (hS : StS w B X t most last v o p1 p2 p3 p4) (hm : most ≤ 65536) (hl : o.length ≤ most) :
    Calls Tryz.prog 288 #[.pointer (some ⟨B + 1, 0, none⟩), .int .u8 (c.toNat : Int)] w fun e w' => PutPost B X t most last o [c] p1 p2 p3 p4 w e w' := by
  obtain ⟨a, cp, rfl⟩ := hS.own.shape
  have HS := hidM hS
  have c1 := hS.box.c1
  have hB1 := hS.box.lt
  have HR := hidM (room_any (B + 1) B most a o.length cp p1 p2 p3 p4 last w hS.box hm hl)
  obtain ⟨i0, hi, hz0, hz1, hz2⟩ := info5_parts
  clear hS
  go_enter Tryz.func288, Tryz.ntmps288
  go_wp2_with fail
  refine HR.out.mono ?_
  rintro _ w1 ⟨rfl, m, rfl⟩
  have HS1 : Hid (StS (w.drewN m) B X t most last (.slice a o.length cp) o p1 p2 p3 p4) := ⟨HS.out.rd, HS.out.box, HS.out.own⟩
  have c1' := HS1.out.box.c1
  have HBW : Hid (Below w.heap.size w (w.drewN m)) := ⟨rfl, rfl, rfl, Nat.le_refl _, fun _ _ => rfl⟩
  have HSZ : Hid ((w.drewN m).heap.size = w.heap.size) := rfl
  generalize w.drewN m = w1 at *
  have hB2 : B + 1 < w1.heap.size := HS1.out.box.lt
  by_cases h0 : most - o.length = 0
  · have e0 : ((most - o.length : Nat) : Int) = 0 := by omega
    rw [e0]
    go_wp2
    go_ret
    exact .inl ⟨by simp; omega, rfl, HBW.out.mono (by omega)⟩
  · obtain ⟨d, hd⟩ : ∃ d, d = most - o.length := ⟨_, rfl⟩
    rw [← hd]
    have e0 : ((d : Int) == 0) = false := by simp; omega
    clear hd c1
    go_wp2_with (first
      | (at_builtin; go_loud (refine wpList_append_own_at _ rfl _ _ 74 rfl (B + 2) 5 i0 (.int .u8 0) 1 1 Tryz.underlying74 hi hz0 hz1 hz2 rfl (by decide) (.slice a o.length cp) o.length (bytesV o) rfl (World.ownsRow.alloc HS1.out.own _) ⟨w1.heap.size, 0, none⟩ 1 1 [.int .u8 (c.toNat : Int)] ?f0 rfl ?f1 ?f2 ?f3 ?f4 ?f5 ?_)))
    try (case f0 => rfl)
    case f1 => exact World.news_of_block (heap_alloc_new _ _)
    case f2 => first | rfl | (intro u hu; simp at hu; subst hu; rfl)
    case f3 => first | (unfold maxLen; omega) | (simp [maxLen]; omega)
    case f4 => first | omega | (simp; omega)
    case f5 => first | omega | (simp; omega)
    intro v' w6 hown hgrow _ hloc
    obtain ⟨a2, c2, rfl⟩ := own_slice hown
    obtain ⟨⟨k0, k1⟩, hst, hkp⟩ := HS1.out.grow (l := [c]) ((Below.refl _ w1).alloc (Nat.le_refl _) _) hgrow hown
    have HST := hidM hst
    have HKP := hidM hkp
    clear hown hgrow hloc hst hkp
    go_wp2
    go_ret
    exact .inr ⟨by simp; omega, rfl, _, HST.out, (kept_of_below HBW.out (by omega)).trans HKP.out⟩
end Go.Proofs.YtlmeoahcpmikiaaGreatDoor
namespace Go.Proofs.YtlmeoahcpmikiaaGreatDoor
open Go.RowKit
def M64 : Nat := 18446744073709551616
def numB (l : List UInt8) : Nat := l.foldl (fun x c => (x * 256 + c.toNat) % M64) 0
theorem numB_snoc (l : List UInt8) (c : UInt8) : numB (l ++ [c]) = (numB l * 256 + c.toNat) % M64 := by
  simp [numB, List.foldl_append]
theorem or_step (y : Nat) (c : UInt8) : bits .or .u64 (IntKind.u64.wrap ((y : Int) * 256)) (IntKind.u64.wrap (c.toNat : Int)) = (((y * 256 + c.toNat) % M64 : Nat) : Int) := by
  have hc := byte_lt c
  rw [u64_wrap, u64_wrap]
  have e1 : ((y : Int) * 256) % 18446744073709551616 = ((y * 256 % 18446744073709551616 : Nat) : Int) := by omega
  have e2 : (c.toNat : Int) % 18446744073709551616 = (c.toNat : Int) := by omega
  rw [e1, e2, u64_or_nat _ _ (by omega) (by omega), nat_join 8 _ _ (by omega) (by omega)]
  unfold M64
  omega
theorem rev_step (s : ByteArray) (m k : Nat) (hk : k < m) (hm : m ≤ s.size) (h : k < s.size) :
    ((s.data.toList.take m).drop k).reverse = ((s.data.toList.take m).drop (k + 1)).reverse ++ [s[k]] := by
  rw [List.drop_eq_getElem_cons (i := k) (by simp; omega), List.reverse_cons]
  congr 1
  simp; rfl
set_option maxHeartbeats 400000 in
theorem fromLittle_any (s : ByteArray) (w : World) (hs : s.size ≤ maxLen) :
    Calls Tryz.prog 301 #[.string s] w fun e w' => e = .returned (.int .u64 (numB (s.data.toList.take 8).reverse)) ∧ w' = w := by
  unfold maxLen at hs
  have hmm : ∃ m : Nat, ((s.size > 8 ∧ m = 8) ∨ (s.size ≤ 8 ∧ m = s.size)) ∧ s.data.toList.take 8 = s.data.toList.take m := by
    by_cases h : s.size > 8
    · exact ⟨8, .inl ⟨h, rfl⟩, rfl⟩
    · exact ⟨s.size, .inr ⟨by omega, rfl⟩, by rw [List.take_of_length_le (by simp; omega), List.take_of_length_le (by simp)]⟩
  obtain ⟨m, hm, hm8⟩ := hmm
  rw [hm8]
  clear hm8
  have hms : m ≤ s.size := by omega
  have hm9 : m ≤ 8 := by omega
  have HM : Hid ((s.size > 8 ∧ m = 8) ∨ (s.size ≤ 8 ∧ m = s.size)) := hm
  clear hm
  go_enter Tryz.func301, Tryz.ntmps301
  go_wp2
  all_goals
    go_loop [3, 4] (fun x i => ∃ k : Nat, k ≤ m ∧ i = .int .i64 ((k : Int) - 1) ∧ x = .int .u64 (numB ((s.data.toList.take m).drop k).reverse)) (fun _ i => (intOf i + 1).toNat)
    case atStart => exact ⟨m, Nat.le_refl _, val_int (by have := HM.out; omega), val_int (by rw [List.drop_of_length_le (by simp; omega)]; rfl)⟩
    case round =>
      obtain ⟨k, hk, rfl, rfl⟩ := hrel
      rcases k with _ | k
      · go_wp2
        go_ret
        exact ⟨ret_int rfl, rfl⟩
      · have hks : k < s.size := by omega
        have HS : Hid (numB ((s.data.toList.take m).drop k).reverse = (numB ((s.data.toList.take m).drop (k + 1)).reverse * 256 + s[k].toNat) % M64) := by
          have := rev_step s m k (by omega) hms hks
          unfold Hid
          rw [this, numB_snoc]
        generalize numB ((s.data.toList.take m).drop (k + 1)).reverse = y at *
        have e1 : ((k + 1 : Nat) : Int) - 1 = (k : Int) := by omega
        simp only [e1]
        clear e1
        go_wp2
        go_round
        case rel => exact ⟨k, by omega, by go_num, by rw [HS.out]; exact val_int (or_step y s[k])⟩
        case measure => simp [intOf]
/-- of two bytes -/
theorem numB_two (a b : UInt8) : numB [a, b].reverse = a.toNat + 256 * b.toNat := by
  have h1 := a.toNat_lt
  have h2 := b.toNat_lt
  simp only [List.reverse_cons, List.reverse_nil, List.nil_append, List.cons_append, numB, List.foldl_cons, List.foldl_nil, M64]
  omega
end Go.Proofs.YtlmeoahcpmikiaaGreatDoor
namespace Go.Proofs.YtlmeoahcpmikiaaGreatDoor
open Go.RowKit
theorem xor_ones (a : Nat) (h : a < 65536) : a ^^^ 65535 = 65535 - a := by
  apply Nat.eq_of_testBit_eq
  intro i
  rw [Nat.testBit_xor, show 65535 - a = 2 ^ 16 - (a + 1) by omega, Nat.testBit_two_pow_sub_succ h, show 65535 = 2 ^ 16 - 1 by decide, Nat.testBit_two_pow_sub_one]
  by_cases hi : i < 16
  · simp [hi]
  · have : a.testBit i = false := Nat.testBit_lt_two_pow (Nat.lt_of_lt_of_le h (Nat.pow_le_pow_right (n := 2) (i := 16) (by decide) (by omega)))
    simp [hi, this]
theorem xor_sum (a b : Nat) (ha : a < 65536) : a ^^^ b = 65535 ↔ a + b = 65535 := by
  constructor
  · intro h
    have : b = a ^^^ 65535 := by rw [← h, ← Nat.xor_assoc, Nat.xor_self, Nat.zero_xor]
    rw [xor_ones a ha] at this
    omega
  · intro h
    have : b = a ^^^ 65535 := by rw [xor_ones a ha]; omega
    rw [this, ← Nat.xor_assoc, Nat.xor_self, Nat.zero_xor]
theorem extract_list (s : ByteArray) (a b : Nat) : (s.extract a b).data.toList = (s.data.toList.drop a).take (b - a) := by
  rw [ByteArray.data_extract, Array.toList_extract, List.extract_eq_take_drop]
theorem two_list {l : List UInt8} (h : l.length = 2) : ∃ a b, l = [a, b] := by
  match l, h with
  | [a, b], _ => exact ⟨a, b, rfl⟩
theorem numB_le2 {l : List UInt8} (h : l.length = 2) : numB (l.take 8).reverse = le l ∧ le l < 65536 := by
  obtain ⟨a, b, rfl⟩ := two_list h
  have h1 := a.toNat_lt
  have h2 := b.toNat_lt
  rw [List.take_of_length_le (by simp), numB_two, le_two]
  omega
/-- how a step answers: an error, or a state -/
def StepPost (B : Nat) (X : ByteArray) (most : Nat) (last : Bool) (p1 p2 p3 p4 : Value) (r : Res) (w : World) (e : Ending) (w' : World) : Prop :=
  match r with
  | .bad n => n ≠ 0 ∧ e = .returned (.int .i64 (n : Int)) ∧ Below B w w'
  | .good t o => e = .returned (.int .i64 0) ∧ ∃ v, StS w' B X t most last v o p1 p2 p3 p4 ∧ Kept B w w'
set_option maxHeartbeats 4000000 in
set_option maxRecDepth 100000 in
theorem readStored_any (B : Nat) (X : ByteArray) (t most : Nat) (last : Bool) (v : Value) (o : List UInt8) (p1 p2 p3 p4 : Value) (w : World) (hS : StS w B X t most last v o p1 p2 p3 p4) (hX : X.size ≤ 1000000) (ht : t ≤ 8 * X.size) (hm : most ≤ 65536) (hl : o.length ≤ most) :
    Calls Tryz.prog 284 #[.pointer (some ⟨B + 1, 0, none⟩)] w fun e w' => StepPost B X most last p1 p2 p3 p4 (storedR X.data.toList most t o) w e w' := by
  obtain ⟨i0, hi, hz0, hz1, hz2⟩ := info5_parts
  obtain ⟨a, cp, rfl⟩ := hS.own.shape
  have HS := hidM hS
  have c0 := hS.box.c0
  obtain ⟨u, hu⟩ : ∃ u, u = (t + 7) / 8 := ⟨_, rfl⟩
  obtain ⟨q, hq⟩ : ∃ q, u + q = X.size := ⟨X.size - u, by omega⟩
  have HU := hidM hu
  have HQ := hidM hq
  have HT := hidM ht
  have HXL : Hid (X.data.toList.length = X.size) := Array.length_toList
  clear hS hu ht
  go_enter Tryz.func284, Tryz.ntmps284
  by_cases h4 : q < 4
  · have HBN := hidM (bytes_no B X t u q 4 w HS.out.rd (by omega) HT.out HU.out HQ.out (.inr (by omega)))
    go_wp2_with fail
    refine HBN.out.mono ?_
    rintro _ w1 ⟨rfl, _, ho⟩
    have HE : Hid (storedR X.data.toList most t o = .bad 6) := by
      unfold Hid storedR
      simp only
      rw [if_pos (by rw [HXL.out, ← HU.out]; omega)]
    have HO := hidM ho
    clear ho
    go_wp2
    go_ret
    rw [HE.out]
    exact ⟨by decide, rfl, HO.out.kept.below⟩
  · obtain ⟨r, hr⟩ : ∃ r, q = 4 + r := ⟨q - 4, by omega⟩
    have HBY := hidM (bytes_yes B X t u q 4 w HS.out.rd (by omega) HT.out HU.out HQ.out (by omega))
    have hl1 : ((X.data.toList.drop u).take 2).length = 2 := by rw [List.length_take, List.length_drop, HXL.out]; omega
    have hl2 : ((X.data.toList.drop (u + 2)).take 2).length = 2 := by rw [List.length_take, List.length_drop, HXL.out]; omega
    obtain ⟨n1, hn1⟩ : ∃ n, n = le ((X.data.toList.drop u).take 2) := ⟨_, rfl⟩
    obtain ⟨n2, hn2⟩ : ∃ n, n = le ((X.data.toList.drop (u + 2)).take 2) := ⟨_, rfl⟩
    have b1 : n1 < 65536 := by rw [hn1]; exact (numB_le2 hl1).2
    have b2 : n2 < 65536 := by rw [hn2]; exact (numB_le2 hl2).2
    have HL1 : Hid (∀ W, Calls Tryz.prog 301 #[.string ((X.extract u (u + 4)).extract 0 2)] W fun e w' => e = .returned (.int .u64 (n1 : Int)) ∧ w' = W) := fun W => by
      have h := fromLittle_any ((X.extract u (u + 4)).extract 0 2) W (by rw [ByteArray.size_extract]; unfold maxLen; omega)
      have e : ((X.extract u (u + 4)).extract 0 2).data.toList = (X.data.toList.drop u).take 2 := by
        rw [extract_list, extract_list, List.drop_zero, List.take_take]
        congr 1
        omega
      rw [e, (numB_le2 hl1).1, ← hn1] at h
      exact h
    have HL2 : Hid (∀ W, Calls Tryz.prog 301 #[.string ((X.extract u (u + 4)).extract 2 (X.extract u (u + 4)).size)] W fun e w' => e = .returned (.int .u64 (n2 : Int)) ∧ w' = W) := fun W => by
      have hs4 : (X.extract u (u + 4)).size = 4 := by rw [ByteArray.size_extract]; omega
      rw [hs4]
      have h := fromLittle_any ((X.extract u (u + 4)).extract 2 4) W (by rw [ByteArray.size_extract]; unfold maxLen; omega)
      have e : ((X.extract u (u + 4)).extract 2 4).data.toList = (X.data.toList.drop (u + 2)).take 2 := by
        rw [extract_list, extract_list, show u + 4 - u = 4 by omega, List.drop_take, List.drop_drop, List.take_take]
        congr 1
      rw [e, (numB_le2 hl2).1, ← hn2] at h
      exact h
    have HN1 := hidM hn1
    have HN2 := hidM hn2
    have hsz4 : (X.extract u (u + 4)).size = 4 := by rw [ByteArray.size_extract]; omega
    have hX4 : ((X.extract u (u + 4)).size : Int) = 4 := by omega
    have HX4 := hidM hsz4
    have HR := hidM hr
    clear hl1 hl2 hn1 hn2 hr hsz4
    go_wp2_with fail
    refine HBY.out.mono ?_
    rintro _ w1 ⟨rfl, hrb, ho⟩
    have HS1 := hidM (HS.out.read hrb ho)
    have HK1 : Hid (Kept B w w1) := ho.kept
    clear hrb ho HBY
    generalize X.extract u (u + 4) = H4 at *
    have c0' := HS1.out.box.c0
    go_wp2
    go_quiet ((go_at_call 301; first | with_reducible exact Calls.quiet_of_same (HL1.out _) | with_reducible exact Calls.quiet_of_same (HL2.out _)))
    have HS2 : Hid (StS (w1.drewN nq) B X (u * 8 + 8 * 4) most last (.slice a o.length cp) o p1 p2 p3 p4) := ⟨HS1.out.rd, HS1.out.box, HS1.out.own⟩
    have HK2 : Hid (Kept B w (w1.drewN nq)) := ⟨HK1.out.below.trans (below_drewN (Below.refl _ _) nq), HK1.out.keep⟩
    generalize w1.drewN nq = w2 at *
    have HSR : Hid (storedR X.data.toList most t o = if n1 + n2 ≠ 65535 then .bad 3 else if most < o.length + min n1 r then .bad 2 else if min n1 r < n1 then .bad 6 else .good (8 * (u + 4 + n1)) (o ++ (X.data.toList.drop (u + 4)).take n1)) := by
      unfold Hid storedR
      simp only
      rw [← HU.out, ← HN1.out, ← HN2.out, HXL.out, if_neg (by have := HQ.out; omega), show X.size - (u + 4) = r by have := HQ.out; have := HR.out; omega]
    clear HL1 HL2 HS1 HK1 HX4 c0' HN1 HN2
    obtain ⟨x, hx⟩ : ∃ x, x = n1 ^^^ n2 := ⟨_, rfl⟩
    have ex : bits .xor .u64 (n1 : Int) (n2 : Int) = (x : Int) := by rw [hx]; exact u64_xor_nat n1 n2 (by omega) (by omega)
    have hxs := xor_sum n1 n2 b1
    rw [← hx] at hxs
    have HXS := hidM hxs
    clear hx hxs
    by_cases hsum : n1 + n2 = 65535
    · have hx := HXS.out.2 hsum
      subst hx
      have c02 := HS2.out.box.c0
      have HLF := hidM (left_any B X (u * 8 + 8 * 4) (8 * r) w2 HS2.out.rd (by omega) (by have := HQ.out; have := HR.out; omega))
      obtain ⟨l8, hl8⟩ : ∃ l8, l8 = 8 * r := ⟨_, rfl⟩
      rw [← hl8] at HLF
      have e1 : (l8 : Int) / 8 = (r : Int) := by omega
      have e2 : (l8 : Int).tdiv 8 = (r : Int) := by rw [Int.tdiv_eq_ediv_of_nonneg (by omega)]; exact e1
      have hr6 : r ≤ 1000000 := by have := HQ.out; have := HR.out; omega
      clear hl8
      go_wp2_with fail
      refine HLF.out.mono ?_
      rintro _ w3 ⟨rfl, m3, rfl⟩
      have HS3 : Hid (StS (w2.drewN m3) B X (u * 8 + 8 * 4) most last (.slice a o.length cp) o p1 p2 p3 p4) := ⟨HS2.out.rd, HS2.out.box, HS2.out.own⟩
      have HK3 : Hid (Kept B w (w2.drewN m3)) := ⟨HK2.out.below.trans (below_drewN (Below.refl _ _) m3), HK2.out.keep⟩
      generalize w2.drewN m3 = w3 at *
      clear HLF HS2 HK2 c02
      by_cases hmn : n1 ≤ r
      · have g1 : ¬ (r : Int) < (n1 : Int) := by omega
        have g2 : (n1 : Int) ≤ (r : Int) := by omega
        have HMN : Hid (min n1 r = n1) := Nat.min_eq_left hmn
        by_cases hbig : most < o.length + n1
        · have e3 : ((most - o.length : Nat) : Int) < (n1 : Int) := by omega
          have HE : Hid (storedR X.data.toList most t o = .bad 2) := by
            unfold Hid
            rw [HSR.out, if_neg (fun h => h hsum), if_pos (by rw [HMN.out]; exact hbig)]
          go_wp2_with fail
          refine (room_any (B + 1) B most a o.length cp p1 p2 p3 p4 last w3 HS3.out.box hm hl).mono ?_
          rintro _ w4 ⟨rfl, m4, rfl⟩
          obtain ⟨rm, hrm⟩ : ∃ rm, rm = most - o.length := ⟨_, rfl⟩
          rw [← hrm]
          rw [← hrm] at e3
          clear hrm
          go_wp2
          go_ret
          rw [HE.out]
          exact ⟨by decide, rfl, (HK3.out.below).trans (below_drewN (Below.refl _ _) m4)⟩
        · have e3 : ¬ ((most - o.length : Nat) : Int) < (n1 : Int) := by omega
          go_wp2_with fail
          refine (room_any (B + 1) B most a o.length cp p1 p2 p3 p4 last w3 HS3.out.box hm hl).mono ?_
          rintro _ w4 ⟨rfl, m4, rfl⟩
          obtain ⟨rm, hrm⟩ : ∃ rm, rm = most - o.length := ⟨_, rfl⟩
          rw [← hrm]
          rw [← hrm] at e3
          clear hrm
          have HS4 : Hid (StS (w3.drewN m4) B X (u * 8 + 8 * 4) most last (.slice a o.length cp) o p1 p2 p3 p4) := ⟨HS3.out.rd, HS3.out.box, HS3.out.own⟩
          have HK4 : Hid (Kept B w (w3.drewN m4)) := ⟨HK3.out.below.trans (below_drewN (Below.refl _ _) m4), HK3.out.keep⟩
          generalize w3.drewN m4 = w4 at *
          have d0 := HS4.out.box.c0
          go_wp2_with fail
          refine (bytes_yes B X (u * 8 + 8 * 4) (u + 4) r n1 w4 HS4.out.rd (by omega) (by have := HQ.out; have := HR.out; omega) (by omega) (by have := HQ.out; have := HR.out; omega) (by omega)).mono ?_
          rintro _ w5 ⟨rfl, hrb5, ho5⟩
          have HS5 := hidM (HS4.out.read hrb5 ho5)
          have HK5 : Hid (Kept B w w5) := HK4.out.trans ho5.kept
          have HTX : Hid ((X.extract (u + 4) (u + 4 + n1)).data.toList = (X.data.toList.drop (u + 4)).take n1) := by
            unfold Hid
            rw [extract_list]
            congr 1
            omega
          have hts : (X.extract (u + 4) (u + 4 + n1)).size = n1 := by rw [ByteArray.size_extract]; have := HQ.out; have := HR.out; omega
          have HTS := hidM hts
          clear hrb5 ho5 hts
          generalize X.extract (u + 4) (u + 4 + n1) = TX at *
          have d1 := HS5.out.box.c1
          have hlt5 := HS5.out.box.lt
          go_wp2_with (first
            | (at_builtin; go_loud (refine Lib.wpList_append_own_string _ rfl _ _ 74 9 rfl (B + 2) 5 i0 Tryz.underlying74 Tryz.underlying9 hi hz0 hz1 hz2 _ _ _ rfl HS5.out.own TX rfl ?c1 ?c2 ?c3 ?_)))
          case c1 => have := HTS.out; unfold maxLen; omega
          case c2 => have := HTS.out; omega
          case c3 => omega
          intro v' w6 hown hgrow _
          obtain ⟨a2, c2, rfl⟩ := own_slice hown
          rw [show Lib.strCells TX = bytesV TX.data.toList from rfl] at hown
          obtain ⟨⟨k0, k1⟩, hst, hkp⟩ := HS5.out.grow (l := TX.data.toList) (Below.refl _ w5) hgrow (by rw [show TX.data.toList.length = TX.size from Array.length_toList]; exact hown)
          have HST := hidM hst
          have HKP : Hid (Kept B w _) := HK5.out.trans hkp
          clear hown hgrow hst hkp
          go_wp2
          go_ret
          rw [HSR.out, if_neg (fun h => h hsum), if_neg (by rw [HMN.out]; exact hbig), if_neg (by rw [HMN.out]; omega)]
          have h := HST.out
          rw [HTX.out, show (u + 4) * 8 + 8 * n1 = 8 * (u + 4 + n1) by omega] at h
          exact ⟨rfl, _, h, HKP.out⟩
      · have g1 : (r : Int) < (n1 : Int) := by omega
        have g2 : ¬ (n1 : Int) ≤ (r : Int) := by omega
        have HMN : Hid (min n1 r = r) := Nat.min_eq_right (by omega)
        by_cases hbig : most < o.length + r
        · have e3 : ((most - o.length : Nat) : Int) < (r : Int) := by omega
          have HE : Hid (storedR X.data.toList most t o = .bad 2) := by
            unfold Hid
            rw [HSR.out, if_neg (fun h => h hsum), if_pos (by rw [HMN.out]; exact hbig)]
          go_wp2_with fail
          refine (room_any (B + 1) B most a o.length cp p1 p2 p3 p4 last w3 HS3.out.box hm hl).mono ?_
          rintro _ w4 ⟨rfl, m4, rfl⟩
          obtain ⟨rm, hrm⟩ : ∃ rm, rm = most - o.length := ⟨_, rfl⟩
          rw [← hrm]
          rw [← hrm] at e3
          clear hrm
          go_wp2
          go_ret
          rw [HE.out]
          exact ⟨by decide, rfl, (HK3.out.below).trans (below_drewN (Below.refl _ _) m4)⟩
        · have e3 : ¬ ((most - o.length : Nat) : Int) < (r : Int) := by omega
          go_wp2_with fail
          refine (room_any (B + 1) B most a o.length cp p1 p2 p3 p4 last w3 HS3.out.box hm hl).mono ?_
          rintro _ w4 ⟨rfl, m4, rfl⟩
          obtain ⟨rm, hrm⟩ : ∃ rm, rm = most - o.length := ⟨_, rfl⟩
          rw [← hrm]
          rw [← hrm] at e3
          clear hrm
          have HS4 : Hid (StS (w3.drewN m4) B X (u * 8 + 8 * 4) most last (.slice a o.length cp) o p1 p2 p3 p4) := ⟨HS3.out.rd, HS3.out.box, HS3.out.own⟩
          have HK4 : Hid (Kept B w (w3.drewN m4)) := ⟨HK3.out.below.trans (below_drewN (Below.refl _ _) m4), HK3.out.keep⟩
          generalize w3.drewN m4 = w4 at *
          have d0 := HS4.out.box.c0
          go_wp2_with fail
          refine (bytes_yes B X (u * 8 + 8 * 4) (u + 4) r r w4 HS4.out.rd (by omega) (by have := HQ.out; have := HR.out; omega) (by omega) (by have := HQ.out; have := HR.out; omega) (by omega)).mono ?_
          rintro _ w5 ⟨rfl, hrb5, ho5⟩
          have HS5 := hidM (HS4.out.read hrb5 ho5)
          have HK5 : Hid (Kept B w w5) := HK4.out.trans ho5.kept
          have HTX : Hid ((X.extract (u + 4) (u + 4 + r)).data.toList = (X.data.toList.drop (u + 4)).take r) := by
            unfold Hid
            rw [extract_list]
            congr 1
            omega
          have hts : (X.extract (u + 4) (u + 4 + r)).size = r := by rw [ByteArray.size_extract]; have := HQ.out; have := HR.out; omega
          have HTS := hidM hts
          clear hrb5 ho5 hts
          generalize X.extract (u + 4) (u + 4 + r) = TX at *
          have d1 := HS5.out.box.c1
          have hlt5 := HS5.out.box.lt
          go_wp2_with (first
            | (at_builtin; go_loud (refine Lib.wpList_append_own_string _ rfl _ _ 74 9 rfl (B + 2) 5 i0 Tryz.underlying74 Tryz.underlying9 hi hz0 hz1 hz2 _ _ _ rfl HS5.out.own TX rfl ?c1 ?c2 ?c3 ?_)))
          case c1 => have := HTS.out; unfold maxLen; omega
          case c2 => have := HTS.out; omega
          case c3 => omega
          intro v' w6 hown hgrow _
          obtain ⟨a2, c2, rfl⟩ := own_slice hown
          rw [show Lib.strCells TX = bytesV TX.data.toList from rfl] at hown
          obtain ⟨⟨k0, k1⟩, hst, hkp⟩ := HS5.out.grow (l := TX.data.toList) (Below.refl _ w5) hgrow (by rw [show TX.data.toList.length = TX.size from Array.length_toList]; exact hown)
          have HST := hidM hst
          have HKP : Hid (Kept B w _) := HK5.out.trans hkp
          clear hown hgrow hst hkp
          go_wp2
          go_ret
          rw [HSR.out, if_neg (fun h => h hsum), if_neg (by rw [HMN.out]; exact hbig), if_pos (by rw [HMN.out]; omega)]
          exact ⟨by decide, rfl, HKP.out.below⟩
    · have hx : ¬ x = 65535 := fun h => hsum (HXS.out.1 h)
      have e1 : ((x : Int) == 65535) = false := by simp; omega
      go_wp2
      go_ret
      rw [HSR.out, if_pos hsum]
      exact ⟨by decide, rfl, HK2.out.below⟩
end Go.Proofs.YtlmeoahcpmikiaaGreatDoor
namespace Go.Proofs.YtlmeoahcpmikiaaGreatDoor
open Go.RowKit
set_option maxRecDepth 100000 in
theorem take_snoc (s : ByteArray) (k : Nat) (h : k < s.size) : s.data.toList.take (k + 1) = s.data.toList.take k ++ [s[k]] := by
  rw [List.take_succ_eq_append_getElem (by simpa using h)]; rfl
/-- The bytes of x in n places, the lowest first. -/
def littleL (x : Nat) : Nat → List UInt8
  | 0 => []
  | n + 1 => UInt8.ofNat (x % 256) :: littleL (x / 256) n
def bigL (x n : Nat) : List UInt8 := (littleL x n).reverse
set_option maxRecDepth 100000 in
theorem littleL_len (n : Nat) : ∀ x, (littleL x n).length = n := by
  induction n with
  | zero => intro x; rfl
  | succ n ih => intro x; simp [littleL, ih]
set_option maxRecDepth 100000 in
theorem bigL_len (x n : Nat) : (bigL x n).length = n := by simp [bigL, littleL_len]
set_option maxRecDepth 100000 in
theorem littleL_zero (n : Nat) : littleL 0 n = List.replicate n 0 := by
  induction n with
  | zero => rfl
  | succ n ih => simp [littleL, ih, List.replicate_succ]
set_option maxRecDepth 100000 in
theorem bigL_zero (n : Nat) : bigL 0 n = List.replicate n 0 := by simp [bigL, littleL_zero]
set_option maxRecDepth 100000 in
theorem bigL_succ (x n : Nat) : bigL x (n + 1) = bigL (x / 256) n ++ [UInt8.ofNat (x % 256)] := by simp [bigL, littleL]
set_option maxRecDepth 100000 in
theorem set_last {α : Type} (k : Nat) (z c : α) (T : List α) : (List.replicate (k + 1) z ++ T).set k c = List.replicate k z ++ (c :: T) := by
  rw [List.replicate_succ']
  simp
set_option maxRecDepth 100000 in
theorem bytesV_rep (n : Nat) : bytesV (List.replicate n 0) = List.replicate n (.int .u8 0) := by simp [bytesV]
set_option maxRecDepth 100000 in
theorem bytesV_set (l : List UInt8) (j : Nat) (c : UInt8) : (bytesV l).set j (.int .u8 (c.toNat : Int)) = bytesV (l.set j c) := by simp [bytesV, List.map_set]
set_option maxRecDepth 100000 in
theorem u8_wrap (x : Nat) : IntKind.u8.wrap (x : Int) = ((UInt8.ofNat (x % 256)).toNat : Int) := by
  rw [byte_of, IntKind.wrap_u8']; omega
set_option maxHeartbeats 400000 in
set_option maxRecDepth 100000 in
theorem noughts_some (n : Nat) (w : World) (h0 : 1 ≤ n) (h1 : n ≤ 2147483647) :
    Calls Tryz.prog 181 #[.int .i64 n] w fun e w' => e = .returned (.slice (some ⟨w.heap.size, 0, none⟩) n n) ∧ w'.ownsRow w.heap.size 5 1 (.slice (some ⟨w.heap.size, 0, none⟩) n n) n (bytesV (List.replicate n 0)) ∧ Below w.heap.size w w' ∧ w.heap.size < w'.heap.size := by
  obtain ⟨i0, hi, hz0, hz1, hz2⟩ := info_parts Tryz.info5
  go_enter Tryz.func181, Tryz.ntmps181
  go_wp2_with (at_make; refine wpList_make_full _ rfl _ _ 74 rfl w.heap.size 5 i0 (.int .u8 0) 1 Tryz.underlying74 hi hz0 hz1 .i64 .i64 _ _ n rfl rfl rfl rfl ?c1 ?c2 ?c3 ?_)
  case c1 => rw [hz2]; omega
  case c2 => unfold maxLen; omega
  case c3 => exact Nat.le_refl _
  intro w1 hown hgrow
  have hlt := (hown.lt w.heap.size rfl).2
  have hown2 : w1.ownsRow w.heap.size 5 1 (.slice (some ⟨w.heap.size, 0, none⟩) n n) n (bytesV (List.replicate n 0)) := by
    rw [bytesV_rep, ← toList_madeCells_one]
    simpa using hown
  have hbel : Below w.heap.size w w1 := (Below.refl _ _).grown hgrow (Nat.le_refl _) (by intro k hk; cases hk)
  clear hown hgrow
  go_wp2
  go_ret
  exact ⟨rfl, hown2, hbel, hlt⟩
/-- What one store does to the row, from the end. -/
theorem big_store {w : World} {B g n k : Nat} {v : Value} (x : Nat) (T : List UInt8) (hv : v = .slice (some ⟨g, 0, none⟩) n n)
    (hown : w.ownsRow B 5 1 v n (bytesV (List.replicate (k + 1) 0 ++ T))) :
    (w.setCell ⟨g, k, none⟩ (.int .u8 (IntKind.u8.wrap (x : Int)))).ownsRow B 5 1 v n (bytesV (List.replicate k 0 ++ (UInt8.ofNat (x % 256) :: T))) := by
  subst hv
  have := (hown.stored k (.int .u8 (IntKind.u8.wrap (x : Int)))).1
  rw [u8_wrap, bytesV_set, set_last] at this
  rw [u8_wrap]
  exact this
set_option maxHeartbeats 400000 in
set_option maxRecDepth 100000 in
theorem big_any (x n : Nat) (w : World) (h0 : 1 ≤ n) (h1 : n ≤ 2147483647) :
    Calls Tryz.prog 124 #[.int .u64 x, .int .i64 n] w fun e w' => e = .returned (.string ⟨(bigL x n).toArray⟩) ∧ Below w.heap.size w w' := by
  go_enter Tryz.func124, Tryz.ntmps124
  go_wp2_with fail
  refine (noughts_some n _ h0 h1).mono ?_
  rintro e w1 ⟨rfl, hown, hbel, hlt⟩
  generalize hg : w.heap.size = B at *
  have HG := hidM hg
  clear hg
  go_wp2_with fail
  go_loopw [0, 6] (fun xv i wr => ∃ (k y : Nat) (T : List UInt8), k + T.length = n ∧ i = .int .i64 ((k : Int) - 1) ∧ xv = .int .u64 y ∧ bigL x n = bigL y k ++ T ∧ wr.ownsRow B 5 1 (.slice (some ⟨B, 0, none⟩) n n) n (bytesV (List.replicate k 0 ++ T)) ∧ Below B w wr)
    (fun _ i _ => (intOf i + 1).toNat)
  case atStart => exact ⟨n, x, [], by simp, by go_num, rfl, by simp, by simpa using hown, hbel⟩
  case round =>
    obtain ⟨k, y, T, hk, rfl, rfl, hT, hownr, hbr⟩ := hrel
    clear hown hbel
    have HT : Hid (bigL x n = bigL y k ++ T) := hT
    clear hT
    rcases k with _ | k
    · have hl : T.length = n := by omega
      have hconv : (convert 74 9 (.slice (some ⟨B, 0, none⟩) n n)).run Tryz.prog wr = .ok (.string ⟨(bigL x n).toArray⟩) wr := by
        have ho : OwnB wr B (.slice (some ⟨B, 0, none⟩) n n) T := by unfold OwnB; rw [hl]; simpa using hownr
        rw [show bigL x n = T by rw [HT.out]; rfl]
        exact conv_own ho
      clear hownr HT
      go_wp2
      go_ret
      exact ⟨rfl, by rw [HG.out]; exact hbr⟩
    · have e1 : ((k + 1 : Nat) : Int) - 1 = (k : Int) := by omega
      simp only [e1]
      clear e1
      by_cases hy : y = 0
      · subst hy
        have hconv : (convert 74 9 (.slice (some ⟨B, 0, none⟩) n n)).run Tryz.prog wr = .ok (.string ⟨(bigL x n).toArray⟩) wr := by
          have hl : (List.replicate (k + 1) (0 : UInt8) ++ T).length = n := by simp; omega
          have ho : OwnB wr B (.slice (some ⟨B, 0, none⟩) n n) (List.replicate (k + 1) 0 ++ T) := by unfold OwnB; rw [hl]; exact hownr
          rw [show bigL x n = List.replicate (k + 1) 0 ++ T by rw [HT.out, bigL_zero]]
          exact conv_own ho
        clear hownr HT
        go_wp2
        go_ret
        exact ⟨rfl, by rw [HG.out]; exact hbr⟩
      · have hkn : k < n := by omega
        have hne : ((y : Int) != 0) = true := by simp; omega
        have hcell : ∃ v0, wr.cell? ⟨B, k, none⟩ = some v0 := by
          have := hownr.cellAt k (by omega)
          rw [this]
          have hl : k < (bytesV (List.replicate (k + 1) 0 ++ T)).length := by simp [bytesV]; omega
          exact ⟨_, List.getElem?_eq_getElem hl⟩
        obtain ⟨v0, hc0⟩ := hcell
        have hfz := hownr.frozenAt k
        have hst := big_store y T rfl hownr
        have hbs : Below B w (wr.setCell ⟨B, k, none⟩ (.int .u8 (IntKind.u8.wrap (y : Int)))) := hbr.setCell (Nat.le_refl _) _
        have HST := hidM hst
        have HBS := hidM hbs
        clear hst hbs hownr hbr
        go_wp2
        go_roundw
        case rel => exact ⟨k, y / 256, _, by simp; omega, by go_num, val_int (by omega), by rw [HT.out, bigL_succ]; simp, HST.out, HBS.out⟩
        case measure => simp [intOf]
def adS (s : Nat × Nat) (c : UInt8) : Nat × Nat := ((s.1 + c.toNat) % 65521, (s.2 + (s.1 + c.toNat) % 65521) % 65521)
def adR (s : Nat × Nat) (l : List UInt8) : Nat × Nat := l.foldl adS s
def adSum (l : List UInt8) : Nat := (adR (1, 0) l).2 * 65536 + (adR (1, 0) l).1
set_option maxRecDepth 100000 in
theorem adR_snoc (s : Nat × Nat) (l : List UInt8) (c : UInt8) : adR s (l ++ [c]) = adS (adR s l) c := by simp [adR, List.foldl_append]
set_option maxRecDepth 100000 in
theorem adR_lt (l : List UInt8) : ∀ s : Nat × Nat, s.1 < 65521 → s.2 < 65521 → (adR s l).1 < 65521 ∧ (adR s l).2 < 65521 := by
  induction l with
  | nil => intro s h1 h2; exact ⟨h1, h2⟩
  | cons c l ih => intro s h1 h2; exact ih _ (Nat.mod_lt _ (by decide)) (Nat.mod_lt _ (by decide))
set_option maxRecDepth 100000 in
theorem adR_take (s0 : Nat × Nat) (s : ByteArray) (k : Nat) (h : k < s.size) : adR s0 (s.data.toList.take (k + 1)) = adS (adR s0 (s.data.toList.take k)) s[k] := by rw [take_snoc s k h, adR_snoc]
set_option maxHeartbeats 400000 in
set_option maxRecDepth 100000 in
theorem told_any (b a : Nat) (w : World) (ha : a < 65521) (hcell : w.cell? ⟨b, 0, none⟩ = some (.int .u32 a)) :
    Calls Tryz.prog 231 #[.pointer (some ⟨b, 0, none⟩)] w fun e w' => e = .returned (.int .u32 ((a + 1) % 65521 : Nat)) ∧ w' = w := by
  go_enter Tryz.func231, Tryz.ntmps231
  go_wp2
  go_ret
  exact ⟨ret_int (by omega), rfl⟩
set_option maxRecDepth 100000 in
theorem or16' (d t : Nat) (hd : d < 65521) (ht : t < 65521) : bits .or .u32 ((d : Int) * 65536) (t : Int) = ((d * 65536 + t : Nat) : Int) := by
  rw [show (d : Int) * 65536 = ((d * 65536 : Nat) : Int) by omega, u32_or_nat _ _ (by omega) (by omega), nat_join 16 _ _ (by omega) (by omega)]
set_option maxHeartbeats 400000 in
set_option maxRecDepth 100000 in
theorem adlerSum_any (b a d : Nat) (w : World) (ha : a < 65521) (hd : d < 65521) (h0 : w.cell? ⟨b, 0, none⟩ = some (.int .u32 a)) (h1 : w.cell? ⟨b, 1, none⟩ = some (.int .u32 d)) :
    Calls Tryz.prog 183 #[.pointer (some ⟨b, 0, none⟩)] w fun e w' => e = .returned (.int .u32 (d * 65536 + (a + 1) % 65521 : Nat)) ∧ ∃ n, w' = w.drewN n := by
  go_enter Tryz.func183, Tryz.ntmps183
  go_wp2
  go_quiet ((go_at_call 231; exact Calls.quiet_of_same (told_any b a _ ha (by simpa using h0))))
  go_wp2
  go_ret
  have e := or16' d ((a + 1) % 65521) hd (by omega)
  rw [show (((a + 1) % 65521 : Nat) : Int) = ((a : Int) + 1) % 65521 by omega] at e
  exact ⟨ret_int e, nq, rfl⟩
set_option maxRecDepth 100000 in
theorem Only.cell {b : Nat} {w w' : World} (h : Only b w w') {p : Addr} (hp : p.block ≠ b) : w'.cell? p = w.cell? p := World.cell?_of_block (h.block _ hp)
set_option maxRecDepth 100000 in
theorem Only.frozen {b : Nat} {w w' : World} (h : Only b w w') {p : Addr} (hp : p.block ≠ b) : w'.frozen? p = w.frozen? p := World.frozen?_of_block (h.block _ hp)
/-- A box of Adler's: a is one less than it is told. -/
structure AdBox (w : World) (b : Nat) (s : Nat × Nat) : Prop where
  lt1 : s.1 < 65521
  lt2 : s.2 < 65521
  c0 : w.cell? ⟨b, 0, none⟩ = some (.int .u32 ((s.1 + 65520) % 65521 : Nat))
  c1 : w.cell? ⟨b, 1, none⟩ = some (.int .u32 (s.2 : Nat))
  f0 : w.frozen? ⟨b, 0, none⟩ = false
  f1 : w.frozen? ⟨b, 1, none⟩ = false
set_option maxRecDepth 100000 in
theorem AdBox.only {w w' : World} {b c : Nat} {s : Nat × Nat} (h : AdBox w b s) (ho : Only c w w') (hne : b ≠ c) : AdBox w' b s :=
  ⟨h.lt1, h.lt2, (ho.cell (p := ⟨b, 0, none⟩) hne).trans h.c0, (ho.cell (p := ⟨b, 1, none⟩) hne).trans h.c1, (ho.frozen (p := ⟨b, 0, none⟩) hne).trans h.f0, (ho.frozen (p := ⟨b, 1, none⟩) hne).trans h.f1⟩
set_option maxRecDepth 100000 in
theorem AdBox.below {w w' : World} {b B : Nat} {s : Nat × Nat} (h : AdBox w b s) (ho : Below B w w') (hlt : b < B) : AdBox w' b s :=
  ⟨h.lt1, h.lt2, (ho.cell (p := ⟨b, 0, none⟩) hlt).trans h.c0, (ho.cell (p := ⟨b, 1, none⟩) hlt).trans h.c1, (ho.frozen (p := ⟨b, 0, none⟩) hlt).trans h.f0, (ho.frozen (p := ⟨b, 1, none⟩) hlt).trans h.f1⟩
set_option maxRecDepth 100000 in
theorem adBox_stored {w : World} {b n x y : Nat} {u v : Value} (s : Nat × Nat) (h1 : s.1 < 65521) (h2 : s.2 < 65521) (hx : x = (s.1 + 65520) % 65521) (hy : y = s.2)
    (c0 : w.cell? ⟨b, 0, none⟩ = some u) (c1 : w.cell? ⟨b, 1, none⟩ = some v) (f0 : w.frozen? ⟨b, 0, none⟩ = false) (f1 : w.frozen? ⟨b, 1, none⟩ = false) :
    AdBox (((w.drewN n).setCell ⟨b, 0, none⟩ (.int .u32 (x : Int))).setCell ⟨b, 1, none⟩ (.int .u32 (y : Int))) b s := by
  have g0 : (w.drewN n).cell? ⟨b, 0, none⟩ = some u := c0
  have g1 : (w.drewN n).cell? ⟨b, 1, none⟩ = some v := c1
  have k0 : (((w.drewN n).setCell ⟨b, 0, none⟩ (.int .u32 (x : Int))).setCell ⟨b, 1, none⟩ (.int .u32 (y : Int))).cell? ⟨b, 0, none⟩ = some (.int .u32 (x : Int)) := by
    rw [World.cell?_setCell_other _ _ _ _ (by simp), World.cell?_setCell_same _ _ _ g0]
  have k1 : (((w.drewN n).setCell ⟨b, 0, none⟩ (.int .u32 (x : Int))).setCell ⟨b, 1, none⟩ (.int .u32 (y : Int))).cell? ⟨b, 1, none⟩ = some (.int .u32 (y : Int)) := by
    rw [World.cell?_setCell_same (u := v)]
    rw [World.cell?_setCell_other _ _ _ _ (by simp)]
    exact g1
  have l0 : (((w.drewN n).setCell ⟨b, 0, none⟩ (.int .u32 (x : Int))).setCell ⟨b, 1, none⟩ (.int .u32 (y : Int))).frozen? ⟨b, 0, none⟩ = false := by
    rw [World.frozen?_setCell, World.frozen?_setCell]; exact f0
  have l1 : (((w.drewN n).setCell ⟨b, 0, none⟩ (.int .u32 (x : Int))).setCell ⟨b, 1, none⟩ (.int .u32 (y : Int))).frozen? ⟨b, 1, none⟩ = false := by
    rw [World.frozen?_setCell, World.frozen?_setCell]; exact f1
  generalize ((w.drewN n).setCell ⟨b, 0, none⟩ (.int .u32 (x : Int))).setCell ⟨b, 1, none⟩ (.int .u32 (y : Int)) = W at *
  rw [hx] at k0
  rw [hy] at k1
  exact ⟨h1, h2, k0, k1, l0, l1⟩
set_option maxHeartbeats 800000 in
set_option maxRecDepth 100000 in
theorem adlerWrite_core (b a d : Nat) (s : ByteArray) (w : World) (hs : s.size ≤ maxLen) (ha : a < 65521) (hd : d < 65521)
    (h0 : w.cell? ⟨b, 0, none⟩ = some (.int .u32 a)) (h1 : w.cell? ⟨b, 1, none⟩ = some (.int .u32 d)) (hf0 : w.frozen? ⟨b, 0, none⟩ = false) (hf1 : w.frozen? ⟨b, 1, none⟩ = false) :
    Calls Tryz.prog 182 #[.pointer (some ⟨b, 0, none⟩), .string s] w fun e w' => e = .returned (.tuple #[]) ∧
      ∃ n, w' = ((w.drewN n).setCell ⟨b, 0, none⟩ (.int .u32 (((adR ((a + 1) % 65521, d) s.data.toList).1 + 65520) % 65521 : Nat))).setCell ⟨b, 1, none⟩ (.int .u32 ((adR ((a + 1) % 65521, d) s.data.toList).2 : Nat)) := by
  unfold maxLen at hs
  go_enter Tryz.func182, Tryz.ntmps182
  go_wp2
  go_quiet ((go_at_call 231; exact Calls.quiet_of_same (told_any b a _ ha (by simpa using h0))))
  go_wp2
  go_loop [4, 5, 6] (fun x y i => ∃ (k p q : Nat), k ≤ s.size ∧ i = .int .i64 k ∧ x = .int .u32 p ∧ y = .int .u32 q ∧ p < 65521 ∧ q < 65521 ∧ (p, q) = adR ((a + 1) % 65521, d) (s.data.toList.take k)) (fun _ _ i => s.size - (intOf i).toNat)
  case atStart => exact ⟨0, _,_, Nat.zero_le _, rfl, rfl, rfl, by omega, by omega, rfl⟩
  case round =>
    obtain ⟨k, p, q, hk, rfl, rfl, rfl, hp, hq, hr⟩ := hrel
    have HR := hidM hr
    clear hr
    by_cases hlt : k < s.size
    · have hb := byte_lt s[k]
      have HD : Hid (((p + s[k].toNat) % 65521, (q + (p + s[k].toNat) % 65521) % 65521) = adR ((a + 1) % 65521, d) (s.data.toList.take (k + 1))) := by
        unfold Hid; rw [adR_take _ s k hlt, ← HR.out]; rfl
      go_wp2
      go_round
      case rel => exact ⟨k + 1, _,_, by omega, by go_num, val_int (by omega), val_int (by omega), by omega, by omega, HD.out⟩
      case measure => simp [intOf]; omega
    · have HE : Hid (adR ((a + 1) % 65521, d) s.data.toList = (p, q)) := by
        unfold Hid; rw [HR.out, List.take_of_length_le (by simp; omega)]
      go_wp2
      go_end0
      exact ⟨rfl, nq, by rw [HE.out]; simp only [show (p : Int) + 65521 - 1 = (p : Int) + 65520 by omega]⟩
set_option maxRecDepth 100000 in
theorem adlerWrite_any (b : Nat) (s0 : Nat × Nat) (s : ByteArray) (w : World) (hs : s.size ≤ maxLen) (h : AdBox w b s0) :
    Calls Tryz.prog 182 #[.pointer (some ⟨b, 0, none⟩), .string s] w fun e w' => e = .returned (.tuple #[]) ∧ Only b w w' ∧ AdBox w' b (adR s0 s.data.toList) := by
  have hl := adR_lt s.data.toList s0 h.lt1 h.lt2
  have e1 : ((s0.1 + 65520) % 65521 + 1) % 65521 = s0.1 := by have := h.lt1; omega
  refine (adlerWrite_core b _ _ s w hs (Nat.mod_lt _ (by decide)) h.lt2 h.c0 h.c1 h.f0 h.f1).mono ?_
  rintro e w' ⟨rfl, n, rfl⟩
  rw [e1]
  refine ⟨rfl, (((Only.refl b w).drewN n).setCell 0 _).setCell 1 _, adBox_stored _ hl.1 hl.2 rfl rfl h.c0 h.c1 h.f0 h.f1⟩
set_option maxRecDepth 100000 in
theorem adlerSum_box (b : Nat) (s0 : Nat × Nat) (w : World) (h : AdBox w b s0) :
    Calls Tryz.prog 183 #[.pointer (some ⟨b, 0, none⟩)] w fun e w' => e = .returned (.int .u32 (s0.2 * 65536 + s0.1 : Nat)) ∧ ∃ n, w' = w.drewN n := by
  have e1 : ((s0.1 + 65520) % 65521 + 1) % 65521 = s0.1 := by have := h.lt1; omega
  have := adlerSum_any b _ _ w (Nat.mod_lt _ (by decide)) h.lt2 h.c0 h.c1
  rw [e1] at this
  exact this
set_option maxRecDepth 100000 in
theorem adBox_new (w : World) : AdBox (w.alloc (.cells #[.int .u32 0, .int .u32 0] 248)) w.heap.size (1, 0) :=
  ⟨by decide, by decide, by simp, by simp, by simp, by simp⟩
set_option maxHeartbeats 400000 in
set_option maxRecDepth 100000 in
theorem adler32_any (s : ByteArray) (w : World) (hs : s.size ≤ maxLen) :
    Calls Tryz.prog 125 #[.string s] w fun e w' => e = .returned (.int .u32 (adSum s.data.toList : Nat)) ∧ Below w.heap.size w w' := by
  have hbox := hidM (adBox_new w)
  go_enter Tryz.func125, Tryz.ntmps125
  go_wp2_with fail
  refine (adlerWrite_any _ (1, 0) s _ hs hbox.out).mono ?_
  rintro e w1 ⟨rfl, ho, hb⟩
  have HB := hidM hb
  have HL : Hid (Below w.heap.size w w1) := ((Below.refl _ _).alloc (Nat.le_refl _) _).trans (ho.below (Nat.le_refl _))
  have HE : Hid (adSum s.data.toList = (adR (1, 0) s.data.toList).2 * 65536 + (adR (1, 0) s.data.toList).1) := rfl
  clear hb ho hbox
  generalize adR (1, 0) s.data.toList = r at *
  go_wp2_with fail
  refine (adlerSum_box _ r _ HB.out).mono ?_
  rintro e w2 ⟨rfl, n, rfl⟩
  go_wp2
  go_ret
  exact ⟨ret_int (by rw [HE.out]; omega), below_drewN HL.out n⟩
end Go.Proofs.YtlmeoahcpmikiaaGreatDoor
namespace Go.Proofs.YtlmeoahcpmikiaaGreatDoor
open Go.RowKit
def fixL (s : Nat) : Nat := if s < 144 then 8 else if s < 256 then 9 else if s < 280 then 7 else 8
set_option maxRecDepth 100000 in
theorem fixedLength_any (s : Nat) (w : World) (hs : s < 288) :
    Calls Tryz.prog 220 #[.int .i64 (s : Int)] w fun e w' => e = .returned (.int .i64 (fixL s : Int)) ∧ w' = w := by
  go_enter Tryz.func220, Tryz.ntmps220
  by_cases h1 : s < 144
  · have e1 : (s : Int) < 144 := by omega
    go_wp2
    go_ret
    exact ⟨by unfold fixL; rw [if_pos h1]; rfl, rfl⟩
  · have e1 : ¬ (s : Int) < 144 := by omega
    by_cases h2 : s < 256
    · have e2 : (s : Int) < 256 := by omega
      go_wp2
      go_ret
      exact ⟨by unfold fixL; rw [if_neg h1, if_pos h2]; rfl, rfl⟩
    · have e2 : ¬ (s : Int) < 256 := by omega
      by_cases h3 : s < 280
      · have e3 : (s : Int) < 280 := by omega
        go_wp2
        go_ret
        exact ⟨by unfold fixL; rw [if_neg h1, if_neg h2, if_pos h3]; rfl, rfl⟩
      · have e3 : ¬ (s : Int) < 280 := by omega
        go_wp2
        go_ret
        exact ⟨by unfold fixL; rw [if_neg h1, if_neg h2, if_neg h3]; rfl, rfl⟩
set_option maxRecDepth 100000 in
theorem mul64_one (w : World) : Calls Tryz.prog 282 #[.int .u64 1, .int .u64 32] w fun e w' => e = .returned (.tuple #[.int .u64 0, .int .u64 32]) ∧ w' = w := by
  have a0 : bits .and .u64 0 4294967295 = 0 := by decide +kernel
  have a1 : bits .and .u64 1 4294967295 = 1 := by decide +kernel
  have a2 : bits .and .u64 32 4294967295 = 32 := by decide +kernel
  go_enter Tryz.func282, Tryz.ntmps282
  go_wp2
  go_ret2
  exact ⟨rfl, rfl⟩
set_option maxRecDepth 100000 in
theorem mul_one (w : World) : Calls Tryz.prog 261 #[.int .u64 1, .int .u64 32] w fun e w' => e = .returned (.tuple #[.int .u64 0, .int .u64 32]) ∧ w' = w := by
  go_enter Tryz.func261, Tryz.ntmps261
  go_wp2_with fail
  refine (mul64_one w).mono ?_
  rintro _ _ ⟨rfl, rfl⟩
  go_wp2
  go_ret2
  exact ⟨rfl, rfl⟩
/-- a row of 32 numbers whose first n are 5 -/
def Fives (w : World) (g n : Nat) : Prop := ∃ cur : List Value, w.heap[g]? = some (.cells cur.toArray 3 (0, 0)) ∧ cur.length = 32 ∧ ∀ j, j < n → cur[j]? = some (.int .i64 5)
theorem Fives.splice {w' : World} {g n k : Nat} {cur : List Value} (hl : cur.length = 32) (h5 : ∀ j, j < n → cur[j]? = some (.int .i64 5)) (hn : n + k ≤ 32) (h : w'.heap[g]? = some (.cells (Go.splice cur n (List.replicate k (.int .i64 5))).toArray 3 (0, 0))) : Fives w' g (n + k) := by
  refine ⟨_, h, ?_, fun j hj => ?_⟩
  · rw [length_splice _ _ _ (by rw [List.length_replicate, hl]; exact hn), hl]
  · unfold Go.splice
    by_cases h1 : j < n
    · rw [List.getElem?_append_left (by rw [List.length_take, hl]; omega), List.getElem?_take, if_pos h1]; exact h5 j h1
    · rw [List.getElem?_append_right (by rw [List.length_take, hl]; omega), List.length_take, hl, Nat.min_eq_left (by omega), List.getElem?_append_left (by rw [List.length_replicate]; omega), List.getElem?_replicate, if_pos (by omega)]
set_option maxHeartbeats 2000000 in
set_option maxRecDepth 100000 in
theorem repeat5_any (g0 cap : Nat) (w : World) (h5 : w.cell? ⟨g0, 0, none⟩ = some (.int .i64 5)) (hg0 : g0 < w.heap.size) :
    Calls Tryz.prog 222 #[.slice (some ⟨g0, 0, none⟩) 1 cap, .int .i64 32] w fun e w' => ∃ g, e = .returned (.slice (some ⟨g, 0, none⟩) 32 32) ∧ Fives w' g 32 ∧ Below w.heap.size w w' := by
  obtain ⟨i3, hi3, hz30, hz31, hz32⟩ := info_parts Tryz.info3
  go_enter Tryz.func222, Tryz.ntmps222
  go_wp2_with fail
  refine (mul_one w).mono ?_
  rintro _ w9 ⟨rfl, h9⟩
  rw [h9]
  clear h9 w9
  go_wp2_with (at_make; refine wpList_make_full _ rfl _ _ 135 rfl w.heap.size 3 i3 (.int .i64 0) 1 Tryz.underlying135 hi3 hz30 hz31 .i64 .i64 _ _ 32 rfl rfl rfl rfl ?c1 ?c2 ?c3 ?_)
  case c1 => rw [hz32]; omega
  case c2 => unfold maxLen; omega
  case c3 => exact Nat.le_refl _
  intro w1 hown hgr
  have HF0 : Hid (∃ cur : List Value, w1.heap[w.heap.size]? = some (.cells cur.toArray 3 (0, 0)) ∧ cur.length = 32) := by
    have h := ABox.of_row hown (by rw [← made_one, Nat.mul_one])
    exact ⟨_, h, by simp⟩
  have HB1 : Hid (Below w.heap.size w w1) := (Below.refl _ w).grown hgr (Nat.le_refl _) (by intro k hk; cases hk)
  have h51 : w1.cell? ⟨g0, 0, none⟩ = some (.int .i64 5) := (World.cell?_of_block (w := w) (a := ⟨g0, 0, none⟩) (HB1.out.block g0 hg0)).trans h5
  have hsz : (Tryz.prog.info? 3).map (·.size) = some 1 := by rw [hi3]; simp [hz31]
  clear hown hgr
  obtain ⟨cur, hcur, hlen⟩ := HF0.out
  have HCU := hidM hcur
  generalize hG : w.heap.size = G at *
  have HG := hidM hG
  clear hcur hG HF0
  have HP : Hid (0 < [Value.int .i64 5].length → some (⟨G, 0, none⟩ : Addr) = some ⟨G, 0, none⟩ ∧ ∃ ad, some (⟨g0, 0, none⟩ : Addr) = some ad ∧ ∀ j v, [Value.int .i64 5][j]? = some v → w1.cell? (ad.add j) = some v) := fun _ => ⟨rfl, _, rfl, fun j v hj => by
    match j, hj with
    | 0, hj => simp only [List.getElem?_cons_zero, Option.some.injEq] at hj; subst hj; exact h51
    | j + 1, hj => simp at hj⟩
  go_wp2_with ((with_reducible refine wpList_copy_splice rfl (.tmp 31) (.tmp 32) 135 135 rfl 3 Tryz.underlying135 hsz (some ⟨G, 0, none⟩) (some ⟨g0, 0, none⟩) 32 32 1 cap ?n5 ?n6 G 0 cur 3 HCU.out [.int .i64 5] rfl HP.out ?n3 ?n4 G w HB1.out (Nat.le_refl _) ?_))
  case n4 => rfl
  intro w2 hg2 hb2
  have HF2 : Hid (Fives w2 G 1) := Fives.splice (n := 0) (k := 1) hlen (fun j hj => by omega) (by decide) hg2.out
  have HB2 := hidM hb2
  clear hg2 hb2 h51 HB1 HCU h5
  go_wp2
  go_loopw [8] (fun iv wr => ∃ n : Nat, 1 ≤ n ∧ n ≤ 32 ∧ iv = .int .i64 n ∧ Fives wr G n ∧ Below G w wr) (fun i _ => 32 - (intOf i).toNat)
  case atStart => exact ⟨1, by decide, by decide, rfl, HF2.out, HB2.out⟩
  case round =>
    obtain ⟨n, hn1, hn2, rfl, hf, hb⟩ := hrel
    have HF := hidM hf
    have HB := hidM hb
    clear hf hb HF2 HB2
    by_cases hlt : n < 32
    · have k1 : (n : Int) < 32 := by omega
      have k2 : (n : Int) ≤ 32 := by omega
      obtain ⟨m, hm⟩ : ∃ m, m = 32 - n := ⟨_, rfl⟩
      have k3 : (32 : Int) - (n : Int) = (m : Int) := by omega
      have k4 : ¬ n = 32 := by omega
      have k5 : ¬ 32 = n := by omega
      obtain ⟨k, hk⟩ : ∃ k, k = min n m := ⟨_, rfl⟩
      obtain ⟨z, hz⟩ : ∃ z, z = n + k := ⟨_, rfl⟩
      have k6 : (n : Int) + (k : Int) = (z : Int) := by omega
      obtain ⟨cu, hcu, hcl, hc5⟩ := HF.out
      have HCU := hidM hcu
      have HC5 := hidM hc5
      have HM := hidM hm
      have HK := hidM hk
      have HZ := hidM hz
      have hcell : ∀ j, j < n → wr.cell? ⟨G, j, none⟩ = some (.int .i64 5) := fun j hj => by
        rw [cell_of_row wr G j _ 3 (0, 0) hcu]
        rw [List.getElem?_toArray]
        exact hc5 j hj
      have HCE := hidM hcell
      clear hcu hc5 hcell
      have hmm : k = Nat.min n m := hk
      have HKM := hidM hmm
      have k7 : 32 - n = m := hm.symm
      clear hm hk hz hmm
      have HP2 : Hid (∀ j v, (List.replicate k (Value.int .i64 5))[j]? = some v → wr.cell? ((⟨G, 0, none⟩ : Addr).add j) = some v) := fun j v hj => by
        rw [List.getElem?_replicate] at hj
        split at hj
        · rename_i hjk
          simp only [Option.some.injEq] at hj
          subst hj
          have := HCE.out j (by have := HK.out; omega)
          unfold Addr.add
          split
          · rename_i h0; subst h0; exact this
          · simpa using this
        · cases hj
      have HN : Hid ((List.replicate k (Value.int .i64 5)).length = Nat.min n m) := by unfold Hid; rw [List.length_replicate]; exact HKM.out
      have HL : Hid (n + (List.replicate k (Value.int .i64 5)).length ≤ cu.length) := by unfold Hid; rw [List.length_replicate, hcl]; have := HK.out; have := HM.out; omega
      have HO : Hid (∀ v ∈ List.replicate k (Value.int .i64 5), v.oneCell' = true) := fun v hv => by rw [(List.mem_replicate.1 hv).2]; rfl
      have HLR : Hid (goInt (List.replicate k (Value.int .i64 5)).length = .int .i64 (k : Int)) := by unfold Hid; rw [List.length_replicate]; rfl
      have HBD : Hid (Below G w wr.drew) := ⟨HB.out.os, HB.out.tape, HB.out.output, HB.out.size, HB.out.block⟩
      have ew : IntKind.i64.wrap (z : Int) = (z : Int) := by have := HZ.out; have := HK.out; have := HM.out; rw [IntKind.wrap_i64]; omega
      go_wp2
      go_region_law ((refine step_copy_splice rfl (.tmp 41) (.tmp 44) 135 135 rfl 3 Tryz.underlying135 hsz (some ⟨G, n, none⟩) (some ⟨G, 0, none⟩) m m n 32 (by simp [Act.eval, Act.put]) (by simp [Act.eval, Act.put]) G n cu 3 HCU.out (List.replicate k (.int .i64 5)) HN.out (fun _ => ⟨rfl, _, rfl, HP2.out⟩) HL.out HO.out G w HBD.out (Nat.le_refl _) ?_; intro w4 hg4 hb4; rw [HLR.out]; have HF4 : Hid (Fives w4 G z) := (by have h := Fives.splice (n := n) (k := k) hcl HC5.out (by have := HK.out; have := HM.out; omega) hg4.out; rw [← HZ.out] at h; exact h); have HB4 := hidM hb4; clear hg4 hb4))
      all_goals
        go_simp

        go_wp2
        go_roundw
        case rel => exact ⟨z, by have := HZ.out; omega, by have := HZ.out; have := HK.out; have := HM.out; omega, by go_num, HF4.out, HB4.out⟩
        case measure => (show 32 - ((z : Int)).toNat < 32 - ((n : Int)).toNat); have := HZ.out; have := HK.out; have := HM.out; omega
    · obtain rfl : n = 32 := by omega
      go_wp2
      go_ret
      exact ⟨G, rfl, HF.out, by rw [HG.out]; exact HB.out⟩
end Go.Proofs.YtlmeoahcpmikiaaGreatDoor
namespace Go.Proofs.YtlmeoahcpmikiaaGreatDoor
open Go.RowKit
set_option maxHeartbeats 4000000 in
set_option maxRecDepth 100000 in
theorem spread4 (w : World) : ∀ k : Nat, k < 28 → Calls Tryz.prog 263 #[.int .i64 (k : Int), .int .i64 4] w fun e w' => e = .returned (.tuple #[.int .i64 ((spreadN k 4).1 : Int), .int .i64 ((spreadN k 4).2 : Int)]) ∧ w' = w
  | 0, _ => by
    show Calls Tryz.prog 263 #[.int .i64 0, .int .i64 4] w fun e w' => e = .returned (.tuple #[.int .i64 0, .int .i64 0]) ∧ w' = w
    go_enter Tryz.func263, Tryz.ntmps263
    go_wp2
    go_ret2
    exact ⟨rfl, rfl⟩
  | 1, _ => by
    show Calls Tryz.prog 263 #[.int .i64 1, .int .i64 4] w fun e w' => e = .returned (.tuple #[.int .i64 1, .int .i64 0]) ∧ w' = w
    go_enter Tryz.func263, Tryz.ntmps263
    go_wp2
    go_ret2
    exact ⟨rfl, rfl⟩
  | 2, _ => by
    show Calls Tryz.prog 263 #[.int .i64 2, .int .i64 4] w fun e w' => e = .returned (.tuple #[.int .i64 2, .int .i64 0]) ∧ w' = w
    go_enter Tryz.func263, Tryz.ntmps263
    go_wp2
    go_ret2
    exact ⟨rfl, rfl⟩
  | 3, _ => by
    show Calls Tryz.prog 263 #[.int .i64 3, .int .i64 4] w fun e w' => e = .returned (.tuple #[.int .i64 3, .int .i64 0]) ∧ w' = w
    go_enter Tryz.func263, Tryz.ntmps263
    go_wp2
    go_ret2
    exact ⟨rfl, rfl⟩
  | 4, _ => by
    show Calls Tryz.prog 263 #[.int .i64 4, .int .i64 4] w fun e w' => e = .returned (.tuple #[.int .i64 4, .int .i64 0]) ∧ w' = w
    go_enter Tryz.func263, Tryz.ntmps263
    go_wp2
    go_ret2
    exact ⟨rfl, rfl⟩
  | 5, _ => by
    show Calls Tryz.prog 263 #[.int .i64 5, .int .i64 4] w fun e w' => e = .returned (.tuple #[.int .i64 5, .int .i64 0]) ∧ w' = w
    go_enter Tryz.func263, Tryz.ntmps263
    go_wp2
    go_ret2
    exact ⟨rfl, rfl⟩
  | 6, _ => by
    show Calls Tryz.prog 263 #[.int .i64 6, .int .i64 4] w fun e w' => e = .returned (.tuple #[.int .i64 6, .int .i64 0]) ∧ w' = w
    go_enter Tryz.func263, Tryz.ntmps263
    go_wp2
    go_ret2
    exact ⟨rfl, rfl⟩
  | 7, _ => by
    show Calls Tryz.prog 263 #[.int .i64 7, .int .i64 4] w fun e w' => e = .returned (.tuple #[.int .i64 7, .int .i64 0]) ∧ w' = w
    go_enter Tryz.func263, Tryz.ntmps263
    go_wp2
    go_ret2
    exact ⟨rfl, rfl⟩
  | 8, _ => by
    show Calls Tryz.prog 263 #[.int .i64 8, .int .i64 4] w fun e w' => e = .returned (.tuple #[.int .i64 8, .int .i64 1]) ∧ w' = w
    go_enter Tryz.func263, Tryz.ntmps263
    go_wp2
    go_ret2
    exact ⟨rfl, rfl⟩
  | 9, _ => by
    show Calls Tryz.prog 263 #[.int .i64 9, .int .i64 4] w fun e w' => e = .returned (.tuple #[.int .i64 10, .int .i64 1]) ∧ w' = w
    go_enter Tryz.func263, Tryz.ntmps263
    go_wp2
    go_ret2
    exact ⟨rfl, rfl⟩
  | 10, _ => by
    show Calls Tryz.prog 263 #[.int .i64 10, .int .i64 4] w fun e w' => e = .returned (.tuple #[.int .i64 12, .int .i64 1]) ∧ w' = w
    go_enter Tryz.func263, Tryz.ntmps263
    go_wp2
    go_ret2
    exact ⟨rfl, rfl⟩
  | 11, _ => by
    show Calls Tryz.prog 263 #[.int .i64 11, .int .i64 4] w fun e w' => e = .returned (.tuple #[.int .i64 14, .int .i64 1]) ∧ w' = w
    go_enter Tryz.func263, Tryz.ntmps263
    go_wp2
    go_ret2
    exact ⟨rfl, rfl⟩
  | 12, _ => by
    show Calls Tryz.prog 263 #[.int .i64 12, .int .i64 4] w fun e w' => e = .returned (.tuple #[.int .i64 16, .int .i64 2]) ∧ w' = w
    go_enter Tryz.func263, Tryz.ntmps263
    go_wp2
    go_ret2
    exact ⟨rfl, rfl⟩
  | 13, _ => by
    show Calls Tryz.prog 263 #[.int .i64 13, .int .i64 4] w fun e w' => e = .returned (.tuple #[.int .i64 20, .int .i64 2]) ∧ w' = w
    go_enter Tryz.func263, Tryz.ntmps263
    go_wp2
    go_ret2
    exact ⟨rfl, rfl⟩
  | 14, _ => by
    show Calls Tryz.prog 263 #[.int .i64 14, .int .i64 4] w fun e w' => e = .returned (.tuple #[.int .i64 24, .int .i64 2]) ∧ w' = w
    go_enter Tryz.func263, Tryz.ntmps263
    go_wp2
    go_ret2
    exact ⟨rfl, rfl⟩
  | 15, _ => by
    show Calls Tryz.prog 263 #[.int .i64 15, .int .i64 4] w fun e w' => e = .returned (.tuple #[.int .i64 28, .int .i64 2]) ∧ w' = w
    go_enter Tryz.func263, Tryz.ntmps263
    go_wp2
    go_ret2
    exact ⟨rfl, rfl⟩
  | 16, _ => by
    show Calls Tryz.prog 263 #[.int .i64 16, .int .i64 4] w fun e w' => e = .returned (.tuple #[.int .i64 32, .int .i64 3]) ∧ w' = w
    go_enter Tryz.func263, Tryz.ntmps263
    go_wp2
    go_ret2
    exact ⟨rfl, rfl⟩
  | 17, _ => by
    show Calls Tryz.prog 263 #[.int .i64 17, .int .i64 4] w fun e w' => e = .returned (.tuple #[.int .i64 40, .int .i64 3]) ∧ w' = w
    go_enter Tryz.func263, Tryz.ntmps263
    go_wp2
    go_ret2
    exact ⟨rfl, rfl⟩
  | 18, _ => by
    show Calls Tryz.prog 263 #[.int .i64 18, .int .i64 4] w fun e w' => e = .returned (.tuple #[.int .i64 48, .int .i64 3]) ∧ w' = w
    go_enter Tryz.func263, Tryz.ntmps263
    go_wp2
    go_ret2
    exact ⟨rfl, rfl⟩
  | 19, _ => by
    show Calls Tryz.prog 263 #[.int .i64 19, .int .i64 4] w fun e w' => e = .returned (.tuple #[.int .i64 56, .int .i64 3]) ∧ w' = w
    go_enter Tryz.func263, Tryz.ntmps263
    go_wp2
    go_ret2
    exact ⟨rfl, rfl⟩
  | 20, _ => by
    show Calls Tryz.prog 263 #[.int .i64 20, .int .i64 4] w fun e w' => e = .returned (.tuple #[.int .i64 64, .int .i64 4]) ∧ w' = w
    go_enter Tryz.func263, Tryz.ntmps263
    go_wp2
    go_ret2
    exact ⟨rfl, rfl⟩
  | 21, _ => by
    show Calls Tryz.prog 263 #[.int .i64 21, .int .i64 4] w fun e w' => e = .returned (.tuple #[.int .i64 80, .int .i64 4]) ∧ w' = w
    go_enter Tryz.func263, Tryz.ntmps263
    go_wp2
    go_ret2
    exact ⟨rfl, rfl⟩
  | 22, _ => by
    show Calls Tryz.prog 263 #[.int .i64 22, .int .i64 4] w fun e w' => e = .returned (.tuple #[.int .i64 96, .int .i64 4]) ∧ w' = w
    go_enter Tryz.func263, Tryz.ntmps263
    go_wp2
    go_ret2
    exact ⟨rfl, rfl⟩
  | 23, _ => by
    show Calls Tryz.prog 263 #[.int .i64 23, .int .i64 4] w fun e w' => e = .returned (.tuple #[.int .i64 112, .int .i64 4]) ∧ w' = w
    go_enter Tryz.func263, Tryz.ntmps263
    go_wp2
    go_ret2
    exact ⟨rfl, rfl⟩
  | 24, _ => by
    show Calls Tryz.prog 263 #[.int .i64 24, .int .i64 4] w fun e w' => e = .returned (.tuple #[.int .i64 128, .int .i64 5]) ∧ w' = w
    go_enter Tryz.func263, Tryz.ntmps263
    go_wp2
    go_ret2
    exact ⟨rfl, rfl⟩
  | 25, _ => by
    show Calls Tryz.prog 263 #[.int .i64 25, .int .i64 4] w fun e w' => e = .returned (.tuple #[.int .i64 160, .int .i64 5]) ∧ w' = w
    go_enter Tryz.func263, Tryz.ntmps263
    go_wp2
    go_ret2
    exact ⟨rfl, rfl⟩
  | 26, _ => by
    show Calls Tryz.prog 263 #[.int .i64 26, .int .i64 4] w fun e w' => e = .returned (.tuple #[.int .i64 192, .int .i64 5]) ∧ w' = w
    go_enter Tryz.func263, Tryz.ntmps263
    go_wp2
    go_ret2
    exact ⟨rfl, rfl⟩
  | 27, _ => by
    show Calls Tryz.prog 263 #[.int .i64 27, .int .i64 4] w fun e w' => e = .returned (.tuple #[.int .i64 224, .int .i64 5]) ∧ w' = w
    go_enter Tryz.func263, Tryz.ntmps263
    go_wp2
    go_ret2
    exact ⟨rfl, rfl⟩
  | k + 28, h => absurd h (by omega)
set_option maxHeartbeats 4000000 in
set_option maxRecDepth 100000 in
theorem spread2 (w : World) : ∀ k : Nat, k < 30 → Calls Tryz.prog 263 #[.int .i64 (k : Int), .int .i64 2] w fun e w' => e = .returned (.tuple #[.int .i64 ((spreadN k 2).1 : Int), .int .i64 ((spreadN k 2).2 : Int)]) ∧ w' = w
  | 0, _ => by
    show Calls Tryz.prog 263 #[.int .i64 0, .int .i64 2] w fun e w' => e = .returned (.tuple #[.int .i64 0, .int .i64 0]) ∧ w' = w
    go_enter Tryz.func263, Tryz.ntmps263
    go_wp2
    go_ret2
    exact ⟨rfl, rfl⟩
  | 1, _ => by
    show Calls Tryz.prog 263 #[.int .i64 1, .int .i64 2] w fun e w' => e = .returned (.tuple #[.int .i64 1, .int .i64 0]) ∧ w' = w
    go_enter Tryz.func263, Tryz.ntmps263
    go_wp2
    go_ret2
    exact ⟨rfl, rfl⟩
  | 2, _ => by
    show Calls Tryz.prog 263 #[.int .i64 2, .int .i64 2] w fun e w' => e = .returned (.tuple #[.int .i64 2, .int .i64 0]) ∧ w' = w
    go_enter Tryz.func263, Tryz.ntmps263
    go_wp2
    go_ret2
    exact ⟨rfl, rfl⟩
  | 3, _ => by
    show Calls Tryz.prog 263 #[.int .i64 3, .int .i64 2] w fun e w' => e = .returned (.tuple #[.int .i64 3, .int .i64 0]) ∧ w' = w
    go_enter Tryz.func263, Tryz.ntmps263
    go_wp2
    go_ret2
    exact ⟨rfl, rfl⟩
  | 4, _ => by
    show Calls Tryz.prog 263 #[.int .i64 4, .int .i64 2] w fun e w' => e = .returned (.tuple #[.int .i64 4, .int .i64 1]) ∧ w' = w
    go_enter Tryz.func263, Tryz.ntmps263
    go_wp2
    go_ret2
    exact ⟨rfl, rfl⟩
  | 5, _ => by
    show Calls Tryz.prog 263 #[.int .i64 5, .int .i64 2] w fun e w' => e = .returned (.tuple #[.int .i64 6, .int .i64 1]) ∧ w' = w
    go_enter Tryz.func263, Tryz.ntmps263
    go_wp2
    go_ret2
    exact ⟨rfl, rfl⟩
  | 6, _ => by
    show Calls Tryz.prog 263 #[.int .i64 6, .int .i64 2] w fun e w' => e = .returned (.tuple #[.int .i64 8, .int .i64 2]) ∧ w' = w
    go_enter Tryz.func263, Tryz.ntmps263
    go_wp2
    go_ret2
    exact ⟨rfl, rfl⟩
  | 7, _ => by
    show Calls Tryz.prog 263 #[.int .i64 7, .int .i64 2] w fun e w' => e = .returned (.tuple #[.int .i64 12, .int .i64 2]) ∧ w' = w
    go_enter Tryz.func263, Tryz.ntmps263
    go_wp2
    go_ret2
    exact ⟨rfl, rfl⟩
  | 8, _ => by
    show Calls Tryz.prog 263 #[.int .i64 8, .int .i64 2] w fun e w' => e = .returned (.tuple #[.int .i64 16, .int .i64 3]) ∧ w' = w
    go_enter Tryz.func263, Tryz.ntmps263
    go_wp2
    go_ret2
    exact ⟨rfl, rfl⟩
  | 9, _ => by
    show Calls Tryz.prog 263 #[.int .i64 9, .int .i64 2] w fun e w' => e = .returned (.tuple #[.int .i64 24, .int .i64 3]) ∧ w' = w
    go_enter Tryz.func263, Tryz.ntmps263
    go_wp2
    go_ret2
    exact ⟨rfl, rfl⟩
  | 10, _ => by
    show Calls Tryz.prog 263 #[.int .i64 10, .int .i64 2] w fun e w' => e = .returned (.tuple #[.int .i64 32, .int .i64 4]) ∧ w' = w
    go_enter Tryz.func263, Tryz.ntmps263
    go_wp2
    go_ret2
    exact ⟨rfl, rfl⟩
  | 11, _ => by
    show Calls Tryz.prog 263 #[.int .i64 11, .int .i64 2] w fun e w' => e = .returned (.tuple #[.int .i64 48, .int .i64 4]) ∧ w' = w
    go_enter Tryz.func263, Tryz.ntmps263
    go_wp2
    go_ret2
    exact ⟨rfl, rfl⟩
  | 12, _ => by
    show Calls Tryz.prog 263 #[.int .i64 12, .int .i64 2] w fun e w' => e = .returned (.tuple #[.int .i64 64, .int .i64 5]) ∧ w' = w
    go_enter Tryz.func263, Tryz.ntmps263
    go_wp2
    go_ret2
    exact ⟨rfl, rfl⟩
  | 13, _ => by
    show Calls Tryz.prog 263 #[.int .i64 13, .int .i64 2] w fun e w' => e = .returned (.tuple #[.int .i64 96, .int .i64 5]) ∧ w' = w
    go_enter Tryz.func263, Tryz.ntmps263
    go_wp2
    go_ret2
    exact ⟨rfl, rfl⟩
  | 14, _ => by
    show Calls Tryz.prog 263 #[.int .i64 14, .int .i64 2] w fun e w' => e = .returned (.tuple #[.int .i64 128, .int .i64 6]) ∧ w' = w
    go_enter Tryz.func263, Tryz.ntmps263
    go_wp2
    go_ret2
    exact ⟨rfl, rfl⟩
  | 15, _ => by
    show Calls Tryz.prog 263 #[.int .i64 15, .int .i64 2] w fun e w' => e = .returned (.tuple #[.int .i64 192, .int .i64 6]) ∧ w' = w
    go_enter Tryz.func263, Tryz.ntmps263
    go_wp2
    go_ret2
    exact ⟨rfl, rfl⟩
  | 16, _ => by
    show Calls Tryz.prog 263 #[.int .i64 16, .int .i64 2] w fun e w' => e = .returned (.tuple #[.int .i64 256, .int .i64 7]) ∧ w' = w
    go_enter Tryz.func263, Tryz.ntmps263
    go_wp2
    go_ret2
    exact ⟨rfl, rfl⟩
  | 17, _ => by
    show Calls Tryz.prog 263 #[.int .i64 17, .int .i64 2] w fun e w' => e = .returned (.tuple #[.int .i64 384, .int .i64 7]) ∧ w' = w
    go_enter Tryz.func263, Tryz.ntmps263
    go_wp2
    go_ret2
    exact ⟨rfl, rfl⟩
  | 18, _ => by
    show Calls Tryz.prog 263 #[.int .i64 18, .int .i64 2] w fun e w' => e = .returned (.tuple #[.int .i64 512, .int .i64 8]) ∧ w' = w
    go_enter Tryz.func263, Tryz.ntmps263
    go_wp2
    go_ret2
    exact ⟨rfl, rfl⟩
  | 19, _ => by
    show Calls Tryz.prog 263 #[.int .i64 19, .int .i64 2] w fun e w' => e = .returned (.tuple #[.int .i64 768, .int .i64 8]) ∧ w' = w
    go_enter Tryz.func263, Tryz.ntmps263
    go_wp2
    go_ret2
    exact ⟨rfl, rfl⟩
  | 20, _ => by
    show Calls Tryz.prog 263 #[.int .i64 20, .int .i64 2] w fun e w' => e = .returned (.tuple #[.int .i64 1024, .int .i64 9]) ∧ w' = w
    go_enter Tryz.func263, Tryz.ntmps263
    go_wp2
    go_ret2
    exact ⟨rfl, rfl⟩
  | 21, _ => by
    show Calls Tryz.prog 263 #[.int .i64 21, .int .i64 2] w fun e w' => e = .returned (.tuple #[.int .i64 1536, .int .i64 9]) ∧ w' = w
    go_enter Tryz.func263, Tryz.ntmps263
    go_wp2
    go_ret2
    exact ⟨rfl, rfl⟩
  | 22, _ => by
    show Calls Tryz.prog 263 #[.int .i64 22, .int .i64 2] w fun e w' => e = .returned (.tuple #[.int .i64 2048, .int .i64 10]) ∧ w' = w
    go_enter Tryz.func263, Tryz.ntmps263
    go_wp2
    go_ret2
    exact ⟨rfl, rfl⟩
  | 23, _ => by
    show Calls Tryz.prog 263 #[.int .i64 23, .int .i64 2] w fun e w' => e = .returned (.tuple #[.int .i64 3072, .int .i64 10]) ∧ w' = w
    go_enter Tryz.func263, Tryz.ntmps263
    go_wp2
    go_ret2
    exact ⟨rfl, rfl⟩
  | 24, _ => by
    show Calls Tryz.prog 263 #[.int .i64 24, .int .i64 2] w fun e w' => e = .returned (.tuple #[.int .i64 4096, .int .i64 11]) ∧ w' = w
    go_enter Tryz.func263, Tryz.ntmps263
    go_wp2
    go_ret2
    exact ⟨rfl, rfl⟩
  | 25, _ => by
    show Calls Tryz.prog 263 #[.int .i64 25, .int .i64 2] w fun e w' => e = .returned (.tuple #[.int .i64 6144, .int .i64 11]) ∧ w' = w
    go_enter Tryz.func263, Tryz.ntmps263
    go_wp2
    go_ret2
    exact ⟨rfl, rfl⟩
  | 26, _ => by
    show Calls Tryz.prog 263 #[.int .i64 26, .int .i64 2] w fun e w' => e = .returned (.tuple #[.int .i64 8192, .int .i64 12]) ∧ w' = w
    go_enter Tryz.func263, Tryz.ntmps263
    go_wp2
    go_ret2
    exact ⟨rfl, rfl⟩
  | 27, _ => by
    show Calls Tryz.prog 263 #[.int .i64 27, .int .i64 2] w fun e w' => e = .returned (.tuple #[.int .i64 12288, .int .i64 12]) ∧ w' = w
    go_enter Tryz.func263, Tryz.ntmps263
    go_wp2
    go_ret2
    exact ⟨rfl, rfl⟩
  | 28, _ => by
    show Calls Tryz.prog 263 #[.int .i64 28, .int .i64 2] w fun e w' => e = .returned (.tuple #[.int .i64 16384, .int .i64 13]) ∧ w' = w
    go_enter Tryz.func263, Tryz.ntmps263
    go_wp2
    go_ret2
    exact ⟨rfl, rfl⟩
  | 29, _ => by
    show Calls Tryz.prog 263 #[.int .i64 29, .int .i64 2] w fun e w' => e = .returned (.tuple #[.int .i64 24576, .int .i64 13]) ∧ w' = w
    go_enter Tryz.func263, Tryz.ntmps263
    go_wp2
    go_ret2
    exact ⟨rfl, rfl⟩
  | k + 30, h => absurd h (by omega)
theorem lenOf_le {s : Nat} (h1 : 257 ≤ s) (h2 : s ≤ 285) : (lenOf s).1 ≤ 258 ∧ 3 ≤ (lenOf s).1 ∧ (lenOf s).2 ≤ 5 := by
  have : ∀ k : Fin 29, (lenOf (257 + k.val)).1 ≤ 258 ∧ 3 ≤ (lenOf (257 + k.val)).1 ∧ (lenOf (257 + k.val)).2 ≤ 5 := by decide
  have h := this ⟨s - 257, by omega⟩
  rw [show 257 + (s - 257) = s by omega] at h
  exact h
theorem distOf_le {s : Nat} (h2 : s ≤ 29) : (distOf s).1 ≤ 24577 ∧ 1 ≤ (distOf s).1 ∧ (distOf s).2 ≤ 13 := by
  have : ∀ k : Fin 30, (distOf k.val).1 ≤ 24577 ∧ 1 ≤ (distOf k.val).1 ∧ (distOf k.val).2 ≤ 13 := by decide
  exact this ⟨s, by omega⟩
set_option maxRecDepth 100000 in
theorem lengthOf_any (s : Nat) (w : World) (h1 : 257 ≤ s) (h2 : s ≤ 285) :
    Calls Tryz.prog 227 #[.int .i64 (s : Int)] w fun e w' => e = .returned (.tuple #[.int .i64 ((lenOf s).1 : Int), .int .i64 ((lenOf s).2 : Int)]) ∧ w' = w := by
  go_enter Tryz.func227, Tryz.ntmps227
  by_cases h : s = 285
  · subst h
    go_wp2
    go_ret2
    exact ⟨rfl, rfl⟩
  · obtain ⟨k, hk⟩ : ∃ k, s = 257 + k := ⟨s - 257, by omega⟩
    have e0 : ((s : Int) == 285) = false := by simp; omega
    have e1 : (s : Int) - 257 = (k : Int) := by omega
    have HL : Hid (lenOf s = (3 + (spreadN k 4).1, (spreadN k 4).2)) := by unfold Hid lenOf; rw [if_neg h, show s - 257 = k by omega]
    have hle := lenOf_le h1 h2
    rw [HL.out] at hle
    have HSP := hidM (spread4 w k (by omega))
    clear hk h
    generalize hx : (spreadN k 4).1 = x at *
    generalize hy : (spreadN k 4).2 = y at *
    have HX := hidM hx
    have HY := hidM hy
    simp only at hle
    clear hx hy
    go_wp2_with fail
    refine HSP.out.mono ?_
    rintro _ _ ⟨rfl, rfl⟩
    go_wp2
    go_ret2
    rw [HL.out]
    exact ⟨by simp, rfl⟩
set_option maxRecDepth 100000 in
theorem distanceOf_any (s : Nat) (w : World) (h2 : s ≤ 29) :
    Calls Tryz.prog 228 #[.int .i64 (s : Int)] w fun e w' => e = .returned (.tuple #[.int .i64 ((distOf s).1 : Int), .int .i64 ((distOf s).2 : Int)]) ∧ w' = w := by
  go_enter Tryz.func228, Tryz.ntmps228
  have HL : Hid (distOf s = (1 + (spreadN s 2).1, (spreadN s 2).2)) := rfl
  have hle := distOf_le h2
  rw [HL.out] at hle
  have HSP := hidM (spread2 w s (by omega))
  generalize hx : (spreadN s 2).1 = x at *
  generalize hy : (spreadN s 2).2 = y at *
  simp only at hle
  clear hx hy
  go_wp2_with fail
  refine HSP.out.mono ?_
  rintro _ _ ⟨rfl, rfl⟩
  go_wp2
  go_ret2
  rw [HL.out]
  exact ⟨by simp, rfl⟩
end Go.Proofs.YtlmeoahcpmikiaaGreatDoor
