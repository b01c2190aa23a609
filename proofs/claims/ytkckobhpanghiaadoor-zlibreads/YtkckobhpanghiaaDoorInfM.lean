/-
  Plain mathematics of inflate: what a stream says, as a relation: symbols, repeats, stored blocks, sets of codes, blocks.
-/
import Derived.Test.YtkckobhpanghiaaDoorRvM
namespace Go.Proofs.YtkckobhpanghiaaDoor

/-- a set of codes: lengths by symbols, how many symbols -/
structure Cd where
  ln : Nat → Nat
  L : Nat
/-- how a reading ends: an error's number, or bits taken and bytes that came out -/
inductive Res where
  | bad (e : Nat)
  | good (t : Nat) (o : List UInt8)

/-- bits of a row of bytes behind t -/
def bitsFrom (X : List UInt8) (t : Nat) : Nat := le X / 2 ^ t
def total (X : List UInt8) : Nat := 8 * X.length

/-- a symbol's code stands next -/
def Next (c : Cd) (X : List UInt8) (t s : Nat) : Prop := s < c.L ∧ 0 < c.ln s ∧ t + c.ln s ≤ total X ∧ rv (bitsFrom X t) (c.ln s) = codeC c.ln c.L s
/-- a set that can be read: lengths up to 15, codes that fit -/
structure Cd.Ok (c : Cd) : Prop where
  few : c.L ≤ 320
  short : ∀ i, c.ln i ≤ 15
  fits : kr c.ln c.L 15 ≤ 32768

theorem rv_front (V n m : Nat) (h : n ≤ m) : rv V m / 2 ^ (m - n) = rv V n := by
  obtain ⟨d, rfl⟩ : ∃ d, m = n + d := ⟨m - n, by omega⟩
  rw [show n + d - n = d by omega]
  clear h
  induction d with
  | zero => simp
  | succ d ih =>
    rw [show n + (d + 1) = (n + d) + 1 by omega, rv, Nat.pow_succ, Nat.mul_comm (2 ^ d) 2, ← Nat.div_div_eq_div_mul]
    have := Nat.mod_lt (V / 2 ^ (n + d)) (show 0 < 2 by decide)
    rw [show (2 * rv V (n + d) + V / 2 ^ (n + d) % 2) / 2 = rv V (n + d) by omega, ih]
theorem Next.one {c : Cd} {X : List UInt8} {t s s' : Nat} (hc : c.Ok) (h : Next c X t s) (h' : Next c X t s') : s = s' := by
  obtain ⟨h1, h2, _, h4⟩ := h
  obtain ⟨g1, g2, _, g4⟩ := h'
  rcases Nat.lt_trichotomy (c.ln s) (c.ln s') with hl | hl | hl
  · exact absurd (by rw [← g4, rv_front _ _ _ (Nat.le_of_lt hl)]; exact h4) (codeC_apart c.ln c.L s' s h1 (hc.short _) h2 hl)
  · rcases Nat.lt_trichotomy s s' with hs | hs | hs
    · have := codeC_rise c.ln c.L s' s hs hl h2
      rw [← h4, ← g4, hl] at this; omega
    · exact hs
    · have := codeC_rise c.ln c.L s s' hs hl.symm g2
      rw [← h4, ← g4, hl] at this; omega
  · exact absurd (by rw [← h4, rv_front _ _ _ (Nat.le_of_lt hl)]; exact g4) (codeC_apart c.ln c.L s s' g1 (hc.short _) g2 hl)

/-- a symbol is read: symbol and bits behind it, or an error: 6 where bits are wanting, 3 where no code is met -/
inductive SymR (c : Cd) (X : List UInt8) (t : Nat) : Nat ⊕ (Nat × Nat) → Prop where
  | hit (s : Nat) (h : Next c X t s) : SymR c X t (.inr (s, t + c.ln s))
  | short (hn : ∀ s, ¬ Next c X t s) (h : total X < t + lgs c.ln c.L) : SymR c X t (.inl 6)
  | none (hn : ∀ s, ¬ Next c X t s) (h : t + lgs c.ln c.L ≤ total X) : SymR c X t (.inl 3)
theorem SymR.det {c : Cd} {X : List UInt8} {t : Nat} (hc : c.Ok) {r r' : Nat ⊕ (Nat × Nat)} (h : SymR c X t r) (h' : SymR c X t r') : r = r' := by
  cases h with
  | hit s h => cases h' with
    | hit s' h2 => rw [h.one hc h2]
    | short hn _ => exact absurd h (hn s)
    | none hn _ => exact absurd h (hn s)
  | short hn h => cases h' with
    | hit s' h2 => exact absurd h2 (hn s')
    | short _ _ => rfl
    | none _ h2 => omega
  | none hn h => cases h' with
    | hit s' h2 => exact absurd h2 (hn s')
    | short _ h2 => omega
    | none _ _ => rfl

/-- a number of n bits -/
def num (X : List UInt8) (t n : Nat) : Option Nat := if t + n ≤ total X then some (bitsN X t n) else none

/-- symbol number k of a row: what it begins with above the row's least number, its further bits -/
def spreadN (k alike : Nat) : Nat × Nat := ((k - (k / alike - 1) * alike) * 2 ^ (k / alike - 1), k / alike - 1)
def lenOf (s : Nat) : Nat × Nat := if s = 285 then (258, 0) else (3 + (spreadN (s - 257) 4).1, (spreadN (s - 257) 4).2)
def distOf (s : Nat) : Nat × Nat := (1 + (spreadN s 2).1, (spreadN s 2).2)

/-- bytes come out once more -/
def again (o : List UInt8) (d : Nat) : Nat → List UInt8
  | 0 => o
  | n + 1 => again o d n ++ [((again o d n)[(again o d n).length - d]?).getD 0]

/-- a repeat: behind its length symbol -/
inductive Rep (X : List UInt8) (most : Nat) (cd : Cd) (t s : Nat) (o : List UInt8) : Res → Prop where
  | high (h : 285 < s) : Rep X most cd t s o (.bad 3)
  | len6 (h : s ≤ 285) (hl : num X t (lenOf s).2 = none) : Rep X most cd t s o (.bad 6)
  | dist (x e : Nat) (h : s ≤ 285) (hl : num X t (lenOf s).2 = some x) (hd : SymR cd X (t + (lenOf s).2) (.inl e)) : Rep X most cd t s o (.bad e)
  | dhigh (x k t2 : Nat) (h : s ≤ 285) (hl : num X t (lenOf s).2 = some x) (hd : SymR cd X (t + (lenOf s).2) (.inr (k, t2))) (hk : 29 < k) : Rep X most cd t s o (.bad 3)
  | dist6 (x k t2 : Nat) (h : s ≤ 285) (hl : num X t (lenOf s).2 = some x) (hd : SymR cd X (t + (lenOf s).2) (.inr (k, t2))) (hk : k ≤ 29) (hf : num X t2 (distOf k).2 = none) : Rep X most cd t s o (.bad 6)
  | far (x k t2 y : Nat) (h : s ≤ 285) (hl : num X t (lenOf s).2 = some x) (hd : SymR cd X (t + (lenOf s).2) (.inr (k, t2))) (hk : k ≤ 29) (hf : num X t2 (distOf k).2 = some y) (hb : o.length < (distOf k).1 + y) : Rep X most cd t s o (.bad 3)
  | big (x k t2 y : Nat) (h : s ≤ 285) (hl : num X t (lenOf s).2 = some x) (hd : SymR cd X (t + (lenOf s).2) (.inr (k, t2))) (hk : k ≤ 29) (hf : num X t2 (distOf k).2 = some y) (hb : (distOf k).1 + y ≤ o.length) (hm : most < o.length + ((lenOf s).1 + x)) : Rep X most cd t s o (.bad 2)
  | good (x k t2 y : Nat) (h : s ≤ 285) (hl : num X t (lenOf s).2 = some x) (hd : SymR cd X (t + (lenOf s).2) (.inr (k, t2))) (hk : k ≤ 29) (hf : num X t2 (distOf k).2 = some y) (hb : (distOf k).1 + y ≤ o.length) (hm : o.length + ((lenOf s).1 + x) ≤ most) : Rep X most cd t s o (.good (t2 + (distOf k).2) (again o ((distOf k).1 + y) ((lenOf s).1 + x)))

/-- a stored block, behind its head -/
def upT (t : Nat) : Nat := 8 * ((t + 7) / 8)
def storedR (X : List UInt8) (most t : Nat) (o : List UInt8) : Res :=
  let a := (t + 7) / 8
  if X.length < a + 4 then .bad 6
  else if le ((X.drop a).take 2) + le ((X.drop (a + 2)).take 2) ≠ 65535 then .bad 3
  else
    let n := le ((X.drop a).take 2)
    let k := min n (X.length - (a + 4))
    if most < o.length + k then .bad 2
    else if k < n then .bad 6
    else .good (8 * (a + 4 + n)) (o ++ (X.drop (a + 4)).take n)
/-- lengths of a list, as a set -/
def cdL (l : List Nat) : Cd := ⟨fun i => l.getD i 0, l.length⟩
def fixLit : Cd := ⟨fun i => if i < 144 then 8 else if i < 256 then 9 else if i < 280 then 7 else if i < 288 then 8 else 0, 288⟩
def fixDist : Cd := ⟨fun i => if i < 32 then 5 else 0, 32⟩

/-- how often a symbol of the first set repeats: least, further bits -/
def timesOf (s : Nat) : Nat × Nat := if s = 16 then (3, 2) else if s = 17 then (3, 3) else (11, 7)
/-- one more symbol of the first set -/
inductive StepL (c : Cd) (X : List UInt8) (n t : Nat) (l : List Nat) : Nat ⊕ (Nat × List Nat) → Prop where
  | bad (e : Nat) (h : SymR c X t (.inl e)) : StepL c X n t l (.inl e)
  | first (t2 : Nat) (h : SymR c X t (.inr (16, t2))) (hl : l = []) : StepL c X n t l (.inl 3)
  | plain (s t2 : Nat) (h : SymR c X t (.inr (s, t2))) (hs : s < 16) : StepL c X n t l (.inr (t2, l ++ [s]))
  | times6 (s t2 : Nat) (h : SymR c X t (.inr (s, t2))) (hs : 16 ≤ s) (hl : ¬ (s = 16 ∧ l = [])) (hx : num X t2 (timesOf s).2 = none) : StepL c X n t l (.inl 6)
  | many (s t2 x : Nat) (h : SymR c X t (.inr (s, t2))) (hs : 16 ≤ s) (hl : ¬ (s = 16 ∧ l = [])) (hx : num X t2 (timesOf s).2 = some x) (hm : n < l.length + ((timesOf s).1 + x)) : StepL c X n t l (.inl 3)
  | good (s t2 x : Nat) (h : SymR c X t (.inr (s, t2))) (hs : 16 ≤ s) (hl : ¬ (s = 16 ∧ l = [])) (hx : num X t2 (timesOf s).2 = some x) (hm : l.length + ((timesOf s).1 + x) ≤ n) :
      StepL c X n t l (.inr (t2 + (timesOf s).2, l ++ List.replicate ((timesOf s).1 + x) (if s = 16 then l.getLast?.getD 0 else 0)))
inductive Lens (c : Cd) (X : List UInt8) (n : Nat) : Nat → List Nat → Nat ⊕ (Nat × List Nat) → Prop where
  | done (t : Nat) (l : List Nat) (h : n ≤ l.length) : Lens c X n t l (.inr (t, l))
  | stop (t : Nat) (l : List Nat) (e : Nat) (h : l.length < n) (hs : StepL c X n t l (.inl e)) : Lens c X n t l (.inl e)
  | next (t : Nat) (l : List Nat) (t' : Nat) (l' : List Nat) (r : Nat ⊕ (Nat × List Nat)) (h : l.length < n) (hs : StepL c X n t l (.inr (t', l'))) (hr : Lens c X n t' l' r) : Lens c X n t l r
/-- where a symbol's length of the first set stands -/
def placeOf : List Nat := [16, 17, 18, 0, 8, 7, 9, 6, 10, 5, 11, 4, 12, 3, 13, 2, 14, 1, 15]
def firstCd (X : List UInt8) (t nc : Nat) : Cd := ⟨fun s => if s < 19 ∧ placeOf.idxOf s < nc then bitsN X (t + 3 * placeOf.idxOf s) 3 else 0, 19⟩
/-- a dynamic block's sets -/
inductive Dyn (X : List UInt8) (t : Nat) : Nat ⊕ (Cd × Cd × Nat) → Prop where
  | counts6 (h : num X t 14 = none) : Dyn X t (.inl 6)
  | counts3 (v : Nat) (h : num X t 14 = some v) (hc : 286 < 257 + v % 32 ∨ 30 < 1 + v / 32 % 32) : Dyn X t (.inl 3)
  | first6 (v : Nat) (h : num X t 14 = some v) (hc : 257 + v % 32 ≤ 286 ∧ 1 + v / 32 % 32 ≤ 30) (hf : total X < t + 14 + 3 * (4 + v / 1024)) : Dyn X t (.inl 6)
  | first3 (v : Nat) (h : num X t 14 = some v) (hc : 257 + v % 32 ≤ 286 ∧ 1 + v / 32 % 32 ≤ 30) (hf : t + 14 + 3 * (4 + v / 1024) ≤ total X) (hn : ¬ Fit (firstCd X (t + 14) (4 + v / 1024)).ln 19) : Dyn X t (.inl 3)
  | lens (v e : Nat) (h : num X t 14 = some v) (hc : 257 + v % 32 ≤ 286 ∧ 1 + v / 32 % 32 ≤ 30) (hf : t + 14 + 3 * (4 + v / 1024) ≤ total X) (hn : Fit (firstCd X (t + 14) (4 + v / 1024)).ln 19)
      (hl : Lens (firstCd X (t + 14) (4 + v / 1024)) X (257 + v % 32 + (1 + v / 32 % 32)) (t + 14 + 3 * (4 + v / 1024)) [] (.inl e)) : Dyn X t (.inl e)
  | use3 (v t' : Nat) (l : List Nat) (h : num X t 14 = some v) (hc : 257 + v % 32 ≤ 286 ∧ 1 + v / 32 % 32 ≤ 30) (hf : t + 14 + 3 * (4 + v / 1024) ≤ total X) (hn : Fit (firstCd X (t + 14) (4 + v / 1024)).ln 19)
      (hl : Lens (firstCd X (t + 14) (4 + v / 1024)) X (257 + v % 32 + (1 + v / 32 % 32)) (t + 14 + 3 * (4 + v / 1024)) [] (.inr (t', l)))
      (hu : ¬ (l.getD 256 0 ≠ 0 ∧ Fit (cdL (l.take (257 + v % 32))).ln (257 + v % 32) ∧ Fit (cdL (l.drop (257 + v % 32))).ln (1 + v / 32 % 32))) : Dyn X t (.inl 3)
  | good (v t' : Nat) (l : List Nat) (h : num X t 14 = some v) (hc : 257 + v % 32 ≤ 286 ∧ 1 + v / 32 % 32 ≤ 30) (hf : t + 14 + 3 * (4 + v / 1024) ≤ total X) (hn : Fit (firstCd X (t + 14) (4 + v / 1024)).ln 19)
      (hl : Lens (firstCd X (t + 14) (4 + v / 1024)) X (257 + v % 32 + (1 + v / 32 % 32)) (t + 14 + 3 * (4 + v / 1024)) [] (.inr (t', l)))
      (hu : l.getD 256 0 ≠ 0 ∧ Fit (cdL (l.take (257 + v % 32))).ln (257 + v % 32) ∧ Fit (cdL (l.drop (257 + v % 32))).ln (1 + v / 32 % 32)) : Dyn X t (.inr (cdL (l.take (257 + v % 32)), cdL (l.drop (257 + v % 32)), t'))

/-- where a stream stands: ahead of a block (is the last one behind it?), or among a block's symbols -/
inductive Mode where
  | blk (last : Bool)
  | sym (last : Bool) (cl cd : Cd)
/-- what a stream says from there -/
inductive Run (X : List UInt8) (most : Nat) : Mode → Nat → List UInt8 → Res → Prop where
  | fin (t : Nat) (o : List UInt8) : Run X most (.blk true) t o (.good t o)
  | head6 (t : Nat) (o : List UInt8) (h : num X t 3 = none) : Run X most (.blk false) t o (.bad 6)
  | kind3 (t : Nat) (o : List UInt8) (v : Nat) (h : num X t 3 = some v) (hk : v / 2 = 3) : Run X most (.blk false) t o (.bad 3)
  | stBad (t : Nat) (o : List UInt8) (v e : Nat) (h : num X t 3 = some v) (hk : v / 2 = 0) (hs : storedR X most (t + 3) o = .bad e) : Run X most (.blk false) t o (.bad e)
  | st (t : Nat) (o : List UInt8) (v t' : Nat) (o' : List UInt8) (r : Res) (h : num X t 3 = some v) (hk : v / 2 = 0) (hs : storedR X most (t + 3) o = .good t' o') (hr : Run X most (.blk (v % 2 == 1)) t' o' r) : Run X most (.blk false) t o r
  | fx (t : Nat) (o : List UInt8) (v : Nat) (r : Res) (h : num X t 3 = some v) (hk : v / 2 = 1) (hr : Run X most (.sym (v % 2 == 1) fixLit fixDist) (t + 3) o r) : Run X most (.blk false) t o r
  | dyBad (t : Nat) (o : List UInt8) (v e : Nat) (h : num X t 3 = some v) (hk : v / 2 = 2) (hd : Dyn X (t + 3) (.inl e)) : Run X most (.blk false) t o (.bad e)
  | dy (t : Nat) (o : List UInt8) (v : Nat) (cl cd : Cd) (t' : Nat) (r : Res) (h : num X t 3 = some v) (hk : v / 2 = 2) (hd : Dyn X (t + 3) (.inr (cl, cd, t'))) (hr : Run X most (.sym (v % 2 == 1) cl cd) t' o r) : Run X most (.blk false) t o r
  | syBad (last : Bool) (cl cd : Cd) (t : Nat) (o : List UInt8) (e : Nat) (h : SymR cl X t (.inl e)) : Run X most (.sym last cl cd) t o (.bad e)
  | syEnd (last : Bool) (cl cd : Cd) (t : Nat) (o : List UInt8) (t' : Nat) (r : Res) (h : SymR cl X t (.inr (256, t'))) (hr : Run X most (.blk last) t' o r) : Run X most (.sym last cl cd) t o r
  | syBig (last : Bool) (cl cd : Cd) (t : Nat) (o : List UInt8) (s t' : Nat) (h : SymR cl X t (.inr (s, t'))) (hs : s < 256) (hm : most ≤ o.length) : Run X most (.sym last cl cd) t o (.bad 2)
  | syPut (last : Bool) (cl cd : Cd) (t : Nat) (o : List UInt8) (s t' : Nat) (r : Res) (h : SymR cl X t (.inr (s, t'))) (hs : s < 256) (hm : o.length < most) (hr : Run X most (.sym last cl cd) t' (o ++ [UInt8.ofNat s]) r) : Run X most (.sym last cl cd) t o r
  | syRBad (last : Bool) (cl cd : Cd) (t : Nat) (o : List UInt8) (s t' e : Nat) (h : SymR cl X t (.inr (s, t'))) (hs : 256 < s) (hp : Rep X most cd t' s o (.bad e)) : Run X most (.sym last cl cd) t o (.bad e)
  | syRep (last : Bool) (cl cd : Cd) (t : Nat) (o : List UInt8) (s t' t2 : Nat) (o2 : List UInt8) (r : Res) (h : SymR cl X t (.inr (s, t'))) (hs : 256 < s) (hp : Rep X most cd t' s o (.good t2 o2)) (hr : Run X most (.sym last cl cd) t2 o2 r) : Run X most (.sym last cl cd) t o r
end Go.Proofs.YtkckobhpanghiaaDoor
