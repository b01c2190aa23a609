/-
  What inserts and copies make.
-/
import Derived.Test.YtekpdnlogfaggaaMakD
namespace Go.Proofs.Ytekpdnlogfaggaa
open Go.RowKit

def BA (l : List UInt8) : ByteArray := ⟨l.toArray⟩
theorem ba_size (l : List UInt8) : (BA l).size = l.length := by simp [BA, ByteArray.size]
theorem ba_get (P R : List UInt8) (x : UInt8) (t : Nat) (ht : t = P.length) (h : t < (BA (P ++ x :: R)).size) : (BA (P ++ x :: R))[t] = x := by
  subst ht
  have : (BA (P ++ x :: R))[P.length] = (P ++ x :: R)[P.length]'(by simp) := rfl
  rw [this]; simp
theorem ba_list (l : List UInt8) : (BA l).data.toList = l := rfl

/-- The instructions ds bring out ts. -/
def Makes (base : ByteArray) (ds ts : List UInt8) : Prop :=
  ∀ (P S : List UInt8) (size k : Nat) (out : List UInt8), out.length + ts.length ≤ size → ds.length + S.length ≤ k →
    ∃ k', S.length ≤ k' ∧ flL base (BA (P ++ (ds ++ S))) size k P.length out = flL base (BA (P ++ (ds ++ S))) size k' (P.length + ds.length) (out ++ ts)
theorem makes_nil (base : ByteArray) : Makes base [] [] := by
  intro P S size k out _ hk
  refine ⟨k, by simpa using hk, ?_⟩
  simp
theorem makes_app {base : ByteArray} {ds es ts us : List UInt8} (h : Makes base ds ts) (g : Makes base es us) : Makes base (ds ++ es) (ts ++ us) := by
  intro P S size k out ho hk
  simp only [List.length_append] at ho hk
  obtain ⟨k1, hk1, e1⟩ := h P (es ++ S) size k out (by omega) (by rw [List.length_append]; omega)
  rw [List.length_append] at hk1
  obtain ⟨k2, hk2, e2⟩ := g (P ++ ds) S size k1 (out ++ ts) (by rw [List.length_append]; omega) hk1
  refine ⟨k2, hk2, ?_⟩
  have eP : P ++ ds ++ (es ++ S) = P ++ (ds ++ es ++ S) := by simp
  have eQ : P ++ (ds ++ (es ++ S)) = P ++ (ds ++ es ++ S) := by simp
  rw [eP, List.length_append] at e2
  rw [eQ] at e1
  rw [e1, e2, List.length_append, Nat.add_assoc, List.append_assoc out ts us]
theorem makes_one {base : ByteArray} {ds ts : List UInt8} (hd : 0 < ds.length)
    (h : ∀ P S : List UInt8, ∃ x, inL base (BA (P ++ (ds ++ S))) P.length = (x, P.length + ds.length, 0) ∧ x.data.toList = ts) : Makes base ds ts := by
  intro P S size k out ho hk
  obtain ⟨x, hx, hxt⟩ := h P S
  refine ⟨k - 1, by omega, ?_⟩
  have hs : (BA (P ++ (ds ++ S))).size = P.length + (ds.length + S.length) := by rw [ba_size, List.length_append, List.length_append]
  rw [flL_step (by omega) (by omega) hx, if_pos rfl]
  have hxs : x.size = ts.length := by rw [← hxt]; simp
  rw [if_neg (by omega), hxt]
theorem makes_ins (base : ByteArray) (x : List UInt8) (n : Nat) (hx : x.length = n) (h0 : 0 < n) (hn : n ≤ 127) : Makes base ([UInt8.ofNat n] ++ x) x := by
  refine makes_one (by simp) ?_
  intro P S
  have hs : (BA (P ++ ([UInt8.ofNat n] ++ x ++ S))).size = P.length + (1 + n + S.length) := by
    rw [ba_size]; simp [hx]; omega
  have hc : (BA (P ++ ([UInt8.ofNat n] ++ x ++ S)))[P.length]'(by omega) = UInt8.ofNat n := ba_get P (x ++ S) _ _ rfl (by rw [ba_size]; simp)
  refine ⟨(BA (P ++ ([UInt8.ofNat n] ++ x ++ S))).extract (P.length + 1) (P.length + 1 + n), ?_, ?_⟩
  · rw [inL_put base _ P.length n (P.length + 1 + n) (by omega) (by rw [hc, byte_nat n (by omega)]) (by omega) (by omega) rfl (by omega)]
    have : ([UInt8.ofNat n] ++ x).length = 1 + n := by simp [hx]; omega
    rw [this, Nat.add_assoc]
  · rw [ex_list, ba_list]
    have e1 : P ++ ([UInt8.ofNat n] ++ x ++ S) = (P ++ [UInt8.ofNat n]) ++ (x ++ S) := by simp
    rw [e1, List.drop_left' (by simp), show P.length + 1 + n - (P.length + 1) = n by omega, List.take_left' hx]
theorem makes_insE (base : ByteArray) : ∀ (n : Nat) (x : List UInt8), x.length ≤ n → Makes base (insE x) x
  | n, x, hn => by
    by_cases h0 : x = []
    · subst h0; rw [insE_nil]; exact makes_nil base
    · rw [insE_some x h0]
      have hl : 0 < x.length := List.length_pos_iff.2 h0
      match n, hn with
      | 0, hn => omega
      | n + 1, hn =>
        have ih := makes_insE base n (x.drop 127) (by rw [List.length_drop]; omega)
        have h1 := makes_app (makes_ins base (x.take 127) (min x.length 127) (by rw [List.length_take, Nat.min_comm]) (by omega) (by omega)) ih
        rw [List.take_append_drop] at h1
        simpa using h1

theorem eb_pre (x : Nat) (j : Nat) : ∀ d, ∃ r, eb x (j + d) = eb x j ++ r
  | 0 => ⟨[], by simp⟩
  | d + 1 => by
    obtain ⟨r, hr⟩ := eb_pre x j d
    exact ⟨r ++ (if byI x (j + d) = 0 then [] else [UInt8.ofNat (byI x (j + d))]), by rw [← Nat.add_assoc, eb, hr, List.append_assoc]⟩
theorem mod_next (x j : Nat) : x % 2 ^ (8 * (j + 1)) = x % 2 ^ (8 * j) + byI x j * 2 ^ (8 * j) := by
  unfold byI
  rw [show 8 * (j + 1) = 8 * j + 8 by omega, Nat.pow_add, show (2 : Nat) ^ 8 = 256 from rfl, Nat.mod_mul, Nat.mul_comm (2 ^ (8 * j)) (x / _ % 256)]
theorem nb_dec (x n m : Nat) (P S : List UInt8) (hm : ∀ i, i < n → m / 2 ^ i % 2 = if byI x i = 0 then 0 else 1) :
    ∀ j, j ≤ n → nbL (BA (P ++ (eb x n ++ S))) m n 0 0 P.length = nbL (BA (P ++ (eb x n ++ S))) m (n - j) j (x % 2 ^ (8 * j)) (P.length + (eb x j).length)
  | 0, _ => by simp [eb, Nat.mod_one]
  | j + 1, hj => by
    rw [nb_dec x n m P S hm j (by omega), show n - j = (n - (j + 1)) + 1 by omega]
    have hb := hm j (by omega)
    by_cases h0 : byI x j = 0
    · rw [if_pos h0] at hb
      rw [nbL_skip _ m _ j _ _ (by omega), mod_next, h0, Nat.zero_mul, eb, if_pos h0, List.append_nil]
      rfl
    · rw [if_neg h0] at hb
      obtain ⟨r, hr⟩ := eb_pre x (j + 1) (n - (j + 1))
      rw [show j + 1 + (n - (j + 1)) = n by omega] at hr
      have e1 : eb x (j + 1) = eb x j ++ [UInt8.ofNat (byI x j)] := by rw [eb, if_neg h0]
      have e2 : P ++ (eb x n ++ S) = (P ++ eb x j) ++ UInt8.ofNat (byI x j) :: (r ++ S) := by rw [hr, e1]; simp
      have hlt : P.length + (eb x j).length < (BA (P ++ (eb x n ++ S))).size := by rw [e2, ba_size]; simp
      have hg : (BA (P ++ (eb x n ++ S)))[P.length + (eb x j).length]'hlt = UInt8.ofNat (byI x j) := by
        have := ba_get (P ++ eb x j) (r ++ S) (UInt8.ofNat (byI x j)) (P.length + (eb x j).length) (by simp) (by rw [← e2]; exact hlt)
        simp only [← e2] at this
        exact this
      rw [nbL_one _ m _ j _ _ (byI x j) (by omega) hlt (by rw [hg, byte_nat _ (byI_lt x j)]), mod_next, e1, List.length_append]
      rfl
theorem em4 (x : Nat) : ∃ a b c d, em x 4 = a + 2 * b + 4 * c + 8 * d ∧ em x 3 = a + 2 * b + 4 * c ∧ a ≤ 1 ∧ b ≤ 1 ∧ c ≤ 1 ∧ d ≤ 1 ∧ (if byI x 0 = 0 then 0 else 1) = a ∧ (if byI x 1 = 0 then 0 else 1) = b ∧ (if byI x 2 = 0 then 0 else 1) = c ∧ (if byI x 3 = 0 then 0 else 1) = d := by
  refine ⟨_, _, _, _, ?_, ?_, ?_, ?_, ?_, ?_, rfl, rfl, rfl, rfl⟩
  · simp only [em]
    by_cases h0 : byI x 0 = 0 <;> by_cases h1 : byI x 1 = 0 <;> by_cases h2 : byI x 2 = 0 <;> by_cases h3 : byI x 3 = 0 <;> simp [h0, h1, h2, h3]
  · simp only [em]
    by_cases h0 : byI x 0 = 0 <;> by_cases h1 : byI x 1 = 0 <;> by_cases h2 : byI x 2 = 0 <;> simp [h0, h1, h2]
  all_goals (split <;> omega)
theorem makes_copy (base : ByteArray) (p n : Nat) (hp : p < 4294967296) (hn : n < 16777216) (h0 : 0 < n) (hb : p + n ≤ base.size) : Makes base (cpE p n) (base.extract p (p + n)).data.toList := by
  obtain ⟨pa, pb, pc, pd, ep4, _, la, lb, lc, ld, ia, ib, ic, id⟩ := em4 p
  obtain ⟨na, nb, nc, _, _, en3, ka, kb, kc, _, ja, jb, jc, _⟩ := em4 n
  refine makes_one (by simp [cpE]) ?_
  intro P S
  obtain ⟨c, hc⟩ : ∃ c, c = 128 + em p 4 + 16 * em n 3 := ⟨_, rfl⟩
  have c256 : c < 256 := by omega
  have e0 : cpE p n = UInt8.ofNat c :: (eb p 4 ++ eb n 3) := by unfold cpE; rw [← hc]
  have e1 : P ++ (cpE p n ++ S) = P ++ UInt8.ofNat c :: (eb p 4 ++ eb n 3 ++ S) := by rw [e0]; simp
  have e2 : P ++ (cpE p n ++ S) = (P ++ [UInt8.ofNat c]) ++ (eb p 4 ++ (eb n 3 ++ S)) := by rw [e0]; simp
  have e3 : P ++ (cpE p n ++ S) = (P ++ [UInt8.ofNat c] ++ eb p 4) ++ (eb n 3 ++ S) := by rw [e0]; simp
  have hlt : P.length < (BA (P ++ (cpE p n ++ S))).size := by rw [e1, ba_size]; simp
  have hg : (BA (P ++ (cpE p n ++ S)))[P.length]'hlt = UInt8.ofNat c := by
    have := ba_get P (eb p 4 ++ eb n 3 ++ S) (UInt8.ofNat c) P.length rfl (by rw [← e1]; exact hlt)
    simp only [← e1] at this
    exact this
  have d1 : nbL (BA (P ++ (cpE p n ++ S))) c 4 0 0 (P.length + 1) = (p, P.length + 1 + (eb p 4).length, 0) := by
    have := nb_dec p 4 c (P ++ [UInt8.ofNat c]) (eb n 3 ++ S) (by
      intro i hi
      match i, hi with
      | 0, _ => rw [ia]; omega
      | 1, _ => rw [ib]; omega
      | 2, _ => rw [ic]; omega
      | 3, _ => rw [id]; omega) 4 (Nat.le_refl _)
    rw [← e2, List.length_append] at this
    rw [show P.length + [UInt8.ofNat c].length = P.length + 1 from rfl] at this
    rw [this]
    simp only [Nat.sub_self, nbL]
    rw [Nat.mod_eq_of_lt hp]
  have d2 : nbL (BA (P ++ (cpE p n ++ S))) (c / 16) 3 0 0 (P.length + 1 + (eb p 4).length) = (n, P.length + 1 + (eb p 4).length + (eb n 3).length, 0) := by
    have := nb_dec n 3 (c / 16) (P ++ [UInt8.ofNat c] ++ eb p 4) S (by
      intro i hi
      match i, hi with
      | 0, _ => rw [ja]; omega
      | 1, _ => rw [jb]; omega
      | 2, _ => rw [jc]; omega) 3 (Nat.le_refl _)
    rw [← e3, List.length_append, List.length_append] at this
    rw [show P.length + [UInt8.ofNat c].length = P.length + 1 from rfl] at this
    rw [this]
    simp only [Nat.sub_self, nbL]
    rw [Nat.mod_eq_of_lt hn]
  refine ⟨_, ?_, rfl⟩
  rw [inL_copy base _ P.length c hlt (by rw [hg, byte_nat c c256]) (by omega) _ d1 rfl _ d2 rfl n (if_neg (by simp only; omega)) (by simp only; omega)]
  have : (cpE p n).length = 1 + (eb p 4).length + (eb n 3).length := by rw [e0, List.length_cons, List.length_append]; omega
  rw [this]
  simp only [Prod.mk.injEq, true_and, and_true]
  omega
end Go.Proofs.Ytekpdnlogfaggaa
