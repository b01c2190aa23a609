/-
  A delta of sizes and instructions is applied.
-/
import Derived.Test.YtekpdnlogfaggaaMakM
namespace Go.Proofs.Ytekpdnlogfaggaa
open Go.RowKit

theorem sz_dec (n : Nat) (P S : List UInt8) (hn : n < 16384) : szL (BA (P ++ (szE n ++ S))) P.length 5 0 0 = (n, P.length + (szE n).length, 0) := by
  by_cases h : n < 128
  · have e : szE n = [UInt8.ofNat n] := szE_last n h
    have e1 : P ++ (szE n ++ S) = P ++ UInt8.ofNat n :: S := by rw [e]; rfl
    rw [e1, e]
    have hlt : P.length + 0 < (BA (P ++ UInt8.ofNat n :: S)).size := by rw [ba_size]; simp
    have hg := ba_get P S (UInt8.ofNat n) (P.length + 0) rfl hlt
    rw [szL_last _ _ 4 0 0 n hlt (by rw [hg, byte_nat n (by omega)]) h]
    simp
  · have e : szE n = [UInt8.ofNat (n % 128 + 128), UInt8.ofNat (n / 128)] := by rw [szE_more n h, szE_last (n / 128) (by omega)]
    have e1 : P ++ (szE n ++ S) = P ++ UInt8.ofNat (n % 128 + 128) :: (UInt8.ofNat (n / 128) :: S) := by rw [e]; rfl
    have e2 : P ++ UInt8.ofNat (n % 128 + 128) :: (UInt8.ofNat (n / 128) :: S) = (P ++ [UInt8.ofNat (n % 128 + 128)]) ++ UInt8.ofNat (n / 128) :: S := by simp
    rw [e1, e]
    have hlt : P.length + 0 < (BA (P ++ UInt8.ofNat (n % 128 + 128) :: (UInt8.ofNat (n / 128) :: S))).size := by rw [ba_size]; simp
    have hg := ba_get P (UInt8.ofNat (n / 128) :: S) (UInt8.ofNat (n % 128 + 128)) (P.length + 0) rfl hlt
    have hlt2 : P.length + 1 < (BA ((P ++ [UInt8.ofNat (n % 128 + 128)]) ++ UInt8.ofNat (n / 128) :: S)).size := by rw [ba_size]; simp
    have hg2 := ba_get (P ++ [UInt8.ofNat (n % 128 + 128)]) S (UInt8.ofNat (n / 128)) (P.length + 1) (by simp) hlt2
    rw [szL_more _ _ 4 0 0 (n % 128 + 128) hlt (by rw [hg, byte_nat _ (by omega)]) (by omega)]
    rw [e2]
    rw [szL_last _ _ 3 1 _ (n / 128) hlt2 (by rw [hg2, byte_nat _ (by omega)]) (by omega)]
    simp only [List.length_cons, List.length_nil, Prod.mk.injEq, and_true]
    omega
theorem szE_len (n : Nat) (hn : n < 16384) : (szE n).length ≤ 2 ∧ 1 ≤ (szE n).length := by
  by_cases h : n < 128
  · rw [szE_last n h]; simp
  · rw [szE_more n h, szE_last (n / 128) (by omega)]; simp
theorem insE_len : ∀ (n : Nat) (x : List UInt8), x.length ≤ n → (insE x).length = x.length + (x.length + 126) / 127
  | n, x, hn => by
    by_cases h0 : x = []
    · subst h0; rw [insE_nil]; rfl
    · have hl : 0 < x.length := List.length_pos_iff.2 h0
      rw [insE_some x h0, List.length_cons, List.length_append]
      match n, hn with
      | 0, hn => omega
      | n + 1, hn =>
        rw [insE_len n (x.drop 127) (by rw [List.length_drop]; omega), List.length_take, List.length_drop]
        omega
theorem sizes_dec (a b : Nat) (ds : List UInt8) (ha : a < 16384) (hb : b < 16384) : sizesL (BA ((szE a ++ szE b) ++ ds)) = (a, b, (szE a ++ szE b).length, 0) := by
  have h1 := sz_dec a [] (szE b ++ ds) ha
  have h2 := sz_dec b (szE a) ds hb
  have e1 : [] ++ (szE a ++ (szE b ++ ds)) = (szE a ++ szE b) ++ ds := by simp
  have e2 : szE a ++ (szE b ++ ds) = (szE a ++ szE b) ++ ds := by simp
  rw [e1] at h1
  rw [e2] at h2
  rw [List.length_nil, Nat.zero_add] at h1
  unfold sizesL
  rw [h1]
  simp only [h2, if_true, List.length_append]
theorem make_ok (base : ByteArray) (T ds : List UInt8) (most : Int) (hb : base.size < 16384) (ht : T.length < 16384) (hm : Makes base ds T) (hmost : (T.length : Int) ≤ most) :
    apL base (BA ((szE base.size ++ szE T.length) ++ ds)) most = (T, 0) := by
  have hs := sizes_dec base.size T.length ds hb ht
  unfold apL
  rw [hs]
  simp only [if_true]
  rw [if_neg (by omega)]
  obtain ⟨k', _, e⟩ := hm (szE base.size ++ szE T.length) [] T.length ((BA ((szE base.size ++ szE T.length) ++ ds)).size - (szE base.size ++ szE T.length).length) [] (by simp) (by rw [ba_size, List.length_append]; simp)
  rw [List.append_nil] at e
  rw [e, flL_end _ _ _ _ _ _ (by rw [ba_size]; simp only [List.length_append]; omega)]
  simp
theorem make_big (base : ByteArray) (T ds : List UInt8) (most : Int) (hb : base.size < 16384) (ht : T.length < 16384) (hmost : most < (T.length : Int)) :
    apL base (BA ((szE base.size ++ szE T.length) ++ ds)) most = ([], 2) := by
  unfold apL
  rw [sizes_dec base.size T.length ds hb ht]
  simp only [if_true]
  rw [if_pos hmost]
theorem make_form (base other : ByteArray) (T ds : List UInt8) (most : Int) (hb : base.size < 16384) (ht : T.length < 16384) (ho : base.size ≠ other.size) :
    apL other (BA ((szE base.size ++ szE T.length) ++ ds)) most = ([], 4) := by
  unfold apL
  rw [sizes_dec base.size T.length ds hb ht]
  simp only [if_true]
  rw [if_neg ho]

/-- A piece that two texts have in common. -/
theorem piece_eq (a b : ByteArray) (p q n : Nat) (ha : p + n ≤ a.size) (hb : q + n ≤ b.size) (h : ∀ i (hi : i < n), a[p + i] = b[q + i]) : (a.extract p (p + n)).data.toList = (b.extract q (q + n)).data.toList := by
  rw [ex_list, ex_list]
  have la : a.data.toList.length = a.size := by simp
  have lb : b.data.toList.length = b.size := by simp
  apply List.ext_getElem
  · rw [List.length_take, List.length_take, List.length_drop, List.length_drop]; omega
  · intro i h1 h2
    have hi : i < n := by rw [List.length_take] at h1; omega
    rw [List.getElem_take, List.getElem_take, List.getElem_drop, List.getElem_drop]
    exact h i hi
theorem extract_app (t : ByteArray) (a b c : Nat) (h1 : a ≤ b) (h2 : b ≤ c) : (t.extract a b).data.toList ++ (t.extract b c).data.toList = (t.extract a c).data.toList := by
  rw [ex_list, ex_list, ex_list]
  have e : t.data.toList.drop b = (t.data.toList.drop a).drop (b - a) := by rw [List.drop_drop]; congr 1; omega
  rw [e, ← List.take_add]
  congr 1
  omega
theorem ex_at (s : ByteArray) (a b i : Nat) (h : a + i < s.size) (h' : i < (s.extract a b).size) : (s.extract a b)[i] = s[a + i] := by
  simp [ByteArray.getElem_extract]

theorem piece_at (a b : ByteArray) (p q n : Nat) (ha : p + n ≤ a.size) (hb : q + n ≤ b.size) (h : (a.extract p (p + n)).data.toList = (b.extract q (q + n)).data.toList) (i : Nat) (hi : i < n) : a[p + i] = b[q + i] := by
  rw [ex_list, ex_list] at h
  have la : a.data.toList.length = a.size := by simp
  have lb : b.data.toList.length = b.size := by simp
  have h1 : i < ((a.data.toList.drop p).take (p + n - p)).length := by rw [List.length_take, List.length_drop]; omega
  have h2 : i < ((b.data.toList.drop q).take (q + n - q)).length := by rw [List.length_take, List.length_drop]; omega
  have e : ((a.data.toList.drop p).take (p + n - p))[i] = ((b.data.toList.drop q).take (q + n - q))[i] := by simp only [h]
  rw [List.getElem_take, List.getElem_take, List.getElem_drop, List.getElem_drop] at e
  exact e
/-- How long the copy is. -/
theorem copy_long (base t : ByteArray) (p a n : Nat) (hp : p + 16 ≤ base.size) (ha : a + 16 ≤ t.size) (hk : (base.extract p (p + 16)).data.toList = (t.extract a (a + 16)).data.toList)
    (hn : Alike (base.extract p base.size) (t.extract a t.size) n) : 16 ≤ n ∧ p + n ≤ base.size ∧ a + n ≤ t.size ∧ ∀ i (_ : i < n) (h1 : p + i < base.size) (h2 : a + i < t.size), base[p + i] = t[a + i] := by
  obtain ⟨h1, h2, h3, h4⟩ := hn
  have s1 : (base.extract p base.size).size = base.size - p := by simp
  have s2 : (t.extract a t.size).size = t.size - a := by simp
  have key : ∀ i (hi : i < n) (h1 : p + i < base.size) (h2 : a + i < t.size), base[p + i] = t[a + i] := by
    intro i hi g1 g2
    have := h3 i hi
    rw [ex_at base p base.size i g1, ex_at t a t.size i g2] at this
    exact this
  refine ⟨?_, by omega, by omega, key⟩
  rcases Nat.lt_or_ge n 16 with hl | hl
  · exfalso
    have := h4 (by omega) (by omega)
    rw [ex_at base p base.size n (by omega), ex_at t a t.size n (by omega)] at this
    exact this (piece_at base t p a 16 hp ha hk n hl)
  · exact hl
theorem back_long (base t : ByteArray) (p dn a k : Nat) (hp : p ≤ base.size) (hda : dn ≤ a) (ha : a ≤ t.size) (hk : Back (base.extract 0 p) (t.extract dn a) k) :
    k ≤ p ∧ k ≤ a - dn ∧ ∀ i (_ : i < k) (h1 : p - k + i < base.size) (h2 : a - k + i < t.size), base[p - k + i] = t[a - k + i] := by
  obtain ⟨h1, h2, h3⟩ := hk
  have s1 : (base.extract 0 p).size = p := by simp; omega
  have s2 : (t.extract dn a).size = a - dn := by simp; omega
  refine ⟨by omega, by omega, ?_⟩
  intro i hi g1 g2
  have h4 := h3 (k - 1 - i) (by omega)
  rw [ex_at base 0 p _ (by omega), ex_at t dn a _ (by omega)] at h4
  have e1 : 0 + ((base.extract 0 p).size - 1 - (k - 1 - i)) = p - k + i := by omega
  have e2 : dn + ((t.extract dn a).size - 1 - (k - 1 - i)) = a - k + i := by omega
  simp only [e1, e2] at h4
  exact h4
/-- One more copy, with what stands ahead of it. -/
theorem mk_step (base t : ByteArray) (p dn a k n : Nat) (ds : List UInt8) (hp : p + 16 ≤ base.size) (hda : dn ≤ a) (ha : a + 16 ≤ t.size) (hbs : base.size < 16384)
    (hkey : (base.extract p (p + 16)).data.toList = (t.extract a (a + 16)).data.toList) (hk : Back (base.extract 0 p) (t.extract dn a) k) (hn : Alike (base.extract p base.size) (t.extract a t.size) n)
    (hm : Makes base ds (t.extract 0 dn).data.toList) :
    Makes base (ds ++ insE (t.extract dn (a - k)).data.toList ++ cpE (p - k) (k + n)) (t.extract 0 (a + n)).data.toList := by
  obtain ⟨n16, pn, an, hcopy⟩ := copy_long base t p a n hp ha hkey hn
  obtain ⟨kp, ka, hback⟩ := back_long base t p dn a k (by omega) hda (by omega) hk
  have m1 := makes_insE base _ (t.extract dn (a - k)).data.toList (Nat.le_refl _)
  have m2 := makes_copy base (p - k) (k + n) (by omega) (by omega) (by omega) (by omega)
  have e2 : (base.extract (p - k) (p - k + (k + n))).data.toList = (t.extract (a - k) (a - k + (k + n))).data.toList := by
    refine piece_eq base t (p - k) (a - k) (k + n) (by omega) (by omega) ?_
    intro i hi
    by_cases hik : i < k
    · exact hback i hik (by omega) (by omega)
    · have := hcopy (i - k) (by omega) (by omega) (by omega)
      have e1 : p + (i - k) = p - k + i := by omega
      have e2 : a + (i - k) = a - k + i := by omega
      simp only [e1, e2] at this
      exact this
  rw [e2] at m2
  have m3 := makes_app (makes_app hm m1) m2
  rw [extract_app t 0 dn (a - k) (by omega) (by omega), extract_app t 0 (a - k) _ (by omega) (by omega), show a - k + (k + n) = a + n by omega] at m3
  exact m3
theorem step_len (t : ByteArray) (dn a k n p : Nat) (ds : List UInt8) (H : Nat) (_ : k ≤ a - dn) (hda : dn ≤ a) (ha : a ≤ t.size) (hn : 16 ≤ n) (h : H + ds.length ≤ 4 + dn + (dn + 126) / 127) :
    H + (ds ++ insE (t.extract dn (a - k)).data.toList ++ cpE p (k + n)).length ≤ 4 + (a + n) + (a + n + 126) / 127 := by
  have h1 := cpE_len p (k + n)
  have h2 : (t.extract dn (a - k)).data.toList.length = a - k - dn := by rw [ex_list, List.length_take, List.length_drop]; have : t.data.toList.length = t.size := by simp
                                                                         omega
  rw [List.length_append, List.length_append, insE_len _ _ (Nat.le_refl _), h2]
  omega
end Go.Proofs.Ytekpdnlogfaggaa
