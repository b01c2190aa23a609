/-
  Taken over from another program: MakD.
  Taken over from another program: MakM.
  Taken over from another program: MakN.
  Taken over from another program: MakE.
-/
import Derived.Test.YtddoemeellbhaaaGreatDoorJTMakC
import Derived.Maps.OwnSet
namespace Go.Proofs.YtddoemeellbhaaaGreatDoor.Dlt
open Go.RowKit Go.Maps
set_option maxRecDepth 100000 in
theorem law9 : Keyed Tryz.prog 9 := string_keyed Tryz.underlying9
theorem zero3 (w : World) : (zeroValue 3).run Tryz.prog w = .ok (.int .i64 0) w := Tryz.zeroValue3 w
/-- Each key that is there is a block of the base, and its number is the block's place. -/
def GoodM (base : ByteArray) (D : DataW Unit) : Prop :=
  ∀ (k : List UInt8) (c : Int), Maps.has D (.string k) = true → D.atKey (.string k) (.lit (.int .i64 0)) = .lit (.int .i64 c) → ∃ p : Nat, c = (p : Int) ∧ p + 16 ≤ base.size ∧ (base.extract p (p + 16)).data.toList = k
theorem goodM_empty (base : ByteArray) : GoodM base (.map []) := by
  intro k c h; simp [Maps.has] at h
theorem goodM_put {base : ByteArray} {D : DataW Unit} (h : GoodM base D) (hD : IsMap D) (p : Nat) (hp : p + 16 ≤ base.size) :
    GoodM base (D.put (.string (base.extract p (p + 16)).data.toList) (.lit (.int .i64 (p : Int)))) := by
  intro k c hh ha
  by_cases hk : k = (base.extract p (p + 16)).data.toList
  · subst hk
    rw [atKey_put_same hD (show WideAt.IsKeyLit (.string _) from trivial)] at ha
    simp only [DataW.lit.injEq, Lit.int.injEq, true_and] at ha
    exact ⟨p, ha.symm, hp, rfl⟩
  · have hne : (Lit.string k) ≠ .string (base.extract p (p + 16)).data.toList := fun e => hk (by simpa using e)
    rw [has_put_other hne] at hh
    rw [atKey_put_other hne] at ha
    exact h k c hh ha
theorem wpList_look_f {w : World} {ops : Array Oper} {rest : List Oper} {o : Oper} {a : Act} {Q : Exit → Act → World → Prop} (hg : o.guard = none) (m x : Operand) (hop : o.op = Op.lookup 82 m x true) (b n : Nat) (D : DataW Unit)
    (hm : a.eval m = .map (some b)) (hown : w.ownsMap Tryz.prog 9 (plainElem Tryz.prog 3) b n D) (s : ByteArray) (hx : a.eval x = .string s) (hs : s.size ≤ maxLen) (f : Bool) (hf : Maps.has D (.string s.data.toList) = f)
    (hK : ∀ c : Int, D.atKey (.string s.data.toList) (.lit (.int .i64 0)) = .lit (.int .i64 c) → wpList Tryz.prog ops Q rest (a.put o.dst (.tuple #[.int .i64 c, .bool f])) w) :
    wpList Tryz.prog ops Q (o :: rest) a w := by
  subst hf
  exact wpList_lookup_own_ok_int _ hg _ _ 82 hop 9 3 .i64 law9 Tryz.underlying82 Tryz.underlying3 (zero3 _) b n D hm hown _ _ hx (WideMaps.keyOf_string_mk Tryz.underlying9 hs) (fun c h _ => hK c h)
def MapAt (w : World) (b : Nat) (base : ByteArray) : Prop := ∃ (n : Nat) (D : DataW Unit), w.ownsMap Tryz.prog 9 (plainElem Tryz.prog 3) b n D ∧ GoodM base D
def BlkPost (base : ByteArray) (w : World) (e : Ending) (w' : World) : Prop := e = .returned (.map (some w.heap.size)) ∧ MapAt w' w.heap.size base ∧ Below w.heap.size w w'
set_option maxHeartbeats 1600000 in
set_option maxRecDepth 100000 in
theorem blocks_any (base : ByteArray) (w : World) (hb : base.size ≤ 1000000) :
    Calls Tryz.prog 61 #[.string base] w fun e w' => BlkPost base w e w' := by
  have hmm := @run_makeMap Tryz.prog
  go_enter Tryz.func61, Tryz.ntmps61
  go_wp2
  go_loopw [4] (fun x wr => ∃ (k n : Nat) (D : DataW Unit), n ≤ k ∧ k ≤ base.size + 16 ∧ x = .int .i64 (k : Int) ∧ wr.ownsMap Tryz.prog 9 (plainElem Tryz.prog 3) w.heap.size n D ∧ GoodM base D ∧ Below w.heap.size w wr) (fun x _ => base.size + 16 - (intOf x).toNat)
  case atStart => exact ⟨0, 0, .map [], Nat.le_refl _, Nat.zero_le _, rfl, World.ownsMap_made _ _ _ _, goodM_empty base, (Below.refl _ _).alloc (Nat.le_refl _) _⟩
  case round =>
    obtain ⟨k, n, D, hnk, hk, rfl, hM, hG, hBl⟩ := hrel
    have HM := hidM hM
    have HG := hidM hG
    have HB := hidM hBl
    clear hM hG hBl
    obtain ⟨z, hz⟩ : ∃ z, k + 16 = z := ⟨_, rfl⟩
    have hz' : (k : Int) + 16 = (z : Int) := by omega
    by_cases h16 : z ≤ base.size
    · have h16' : (z : Int) ≤ base.size := by omega
      have hkz : k ≤ z := by omega
      have hxs : (base.extract k z).size ≤ maxLen := by simp only [ByteArray.size_extract]; unfold maxLen; omega
      have HZ := hidM hz
      have n1 : n < maxLen := by unfold maxLen; omega
      clear hz
      cases hf : Maps.has D (.string (base.extract k z).data.toList) with
      | true =>
        have HF := hidM hf
        clear hf
        go_wp2_with (first
          | (at_lookup; go_loud (refine wpList_look_f rfl _ _ rfl w.heap.size n D rfl HM.out _ rfl hxs true HF.out ?_; intro c hat; clear hat)))
        refine ⟨⟨z, n, D, by omega, by omega, rfl, HM.out, HG.out, HB.out⟩, ?_⟩
        simp [intOf]; omega
      | false =>
        have HF := hidM hf
        clear hf
        go_wp2_with (first
          | (at_lookup; go_loud (refine wpList_look_f rfl _ _ rfl w.heap.size n D rfl HM.out _ rfl hxs false HF.out ?_; intro c hat; clear hat))
          | (at_mapUpdate; go_loud (refine wpList_mapUpdate_own _ rfl _ _ _ 82 rfl 9 3 law9 Tryz.underlying82 _ w.heap.size n D rfl HM.out n1 _ _ _ rfl rfl (WideMaps.keyOf_string_mk Tryz.underlying9 hxs) _ [] (plainElem_int Tryz.underlying3 (WalkArith.wf_i64 (by omega))) ?_; intro w1 hown1 hgrow1)))
        have hG1 := goodM_put HG.out HM.out.isMap k (by have := HZ.out; omega)
        rw [HZ.out] at hG1
        refine ⟨⟨z, n + 1, _, by omega, by omega, rfl, hown1, hG1, HB.out.grown hgrow1 HB.out.size (fun j hj => by cases hj; exact Nat.le_refl _)⟩, ?_⟩
        simp [intOf]; omega
    · have h16' : ¬ (z : Int) ≤ base.size := by omega
      go_wp2
      go_ret
      exact ⟨rfl, ⟨n, D, HM.out, HG.out⟩, HB.out⟩
end Go.Proofs.YtddoemeellbhaaaGreatDoor.Dlt
namespace Go.Proofs.YtddoemeellbhaaaGreatDoor.Dlt
open Go.RowKit
def BA (l : List UInt8) : ByteArray := ⟨l.toArray⟩
theorem ba_size (l : List UInt8) : (BA l).size = l.length := by simp [BA, ByteArray.size]
theorem ba_get (P R : List UInt8) (x : UInt8) (t : Nat) (ht : t = P.length) (h : t < (BA (P ++ x :: R)).size) : (BA (P ++ x :: R))[t] = x := by
  subst ht
  have : (BA (P ++ x :: R))[P.length] = (P ++ x :: R)[P.length]'(by simp) := rfl
  rw [this]; simp
theorem ba_list (l : List UInt8) : (BA l).data.toList = l := rfl
/-- The instructions ds bring out ts. -/
def Makes (base : ByteArray) (ds ts : List UInt8) : Prop :=
  ∀ (P S : List UInt8) (size k : Nat) (out : List UInt8), out.length + ts.length ≤ size → ds.length + S.length ≤ k →
    ∃ k', S.length ≤ k' ∧ flL base (BA (P ++ (ds ++ S))) size k P.length out = flL base (BA (P ++ (ds ++ S))) size k' (P.length + ds.length) (out ++ ts)
theorem makes_nil (base : ByteArray) : Makes base [] [] := by
  intro P S size k out _ hk
  refine ⟨k, by simpa using hk, ?_⟩
  simp
theorem makes_app {base : ByteArray} {ds es ts us : List UInt8} (h : Makes base ds ts) (g : Makes base es us) : Makes base (ds ++ es) (ts ++ us) := by
  intro P S size k out ho hk
  simp only [List.length_append] at ho hk
  obtain ⟨k1, hk1, e1⟩ := h P (es ++ S) size k out (by omega) (by rw [List.length_append]; omega)
  rw [List.length_append] at hk1
  obtain ⟨k2, hk2, e2⟩ := g (P ++ ds) S size k1 (out ++ ts) (by rw [List.length_append]; omega) hk1
  refine ⟨k2, hk2, ?_⟩
  have eP : P ++ ds ++ (es ++ S) = P ++ (ds ++ es ++ S) := by simp
  have eQ : P ++ (ds ++ (es ++ S)) = P ++ (ds ++ es ++ S) := by simp
  rw [eP, List.length_append] at e2
  rw [eQ] at e1
  rw [e1, e2, List.length_append, Nat.add_assoc, List.append_assoc out ts us]
theorem makes_one {base : ByteArray} {ds ts : List UInt8} (hd : 0 < ds.length)
    (h : ∀ P S : List UInt8, ∃ x, inL base (BA (P ++ (ds ++ S))) P.length = (x, P.length + ds.length, 0) ∧ x.data.toList = ts) : Makes base ds ts := by
  intro P S size k out ho hk
  obtain ⟨x, hx, hxt⟩ := h P S
  refine ⟨k - 1, by omega, ?_⟩
  have hs : (BA (P ++ (ds ++ S))).size = P.length + (ds.length + S.length) := by rw [ba_size, List.length_append, List.length_append]
  rw [flL_step (by omega) (by omega) hx, if_pos rfl]
  have hxs : x.size = ts.length := by rw [← hxt]; simp
  rw [if_neg (by omega), hxt]
theorem makes_ins (base : ByteArray) (x : List UInt8) (n : Nat) (hx : x.length = n) (h0 : 0 < n) (hn : n ≤ 127) : Makes base ([UInt8.ofNat n] ++ x) x := by
  refine makes_one (by simp) ?_
  intro P S
  have hs : (BA (P ++ ([UInt8.ofNat n] ++ x ++ S))).size = P.length + (1 + n + S.length) := by
    rw [ba_size]; simp [hx]; omega
  have hc : (BA (P ++ ([UInt8.ofNat n] ++ x ++ S)))[P.length]'(by omega) = UInt8.ofNat n := ba_get P (x ++ S) _ _ rfl (by rw [ba_size]; simp)
  refine ⟨(BA (P ++ ([UInt8.ofNat n] ++ x ++ S))).extract (P.length + 1) (P.length + 1 + n), ?_, ?_⟩
  · rw [inL_put base _ P.length n (P.length + 1 + n) (by omega) (by rw [hc, byte_nat n (by omega)]) (by omega) (by omega) rfl (by omega)]
    have : ([UInt8.ofNat n] ++ x).length = 1 + n := by simp [hx]; omega
    rw [this, Nat.add_assoc]
  · rw [ex_list, ba_list]
    have e1 : P ++ ([UInt8.ofNat n] ++ x ++ S) = (P ++ [UInt8.ofNat n]) ++ (x ++ S) := by simp
    rw [e1, List.drop_left' (by simp), show P.length + 1 + n - (P.length + 1) = n by omega, List.take_left' hx]
theorem makes_insE (base : ByteArray) : ∀ (n : Nat) (x : List UInt8), x.length ≤ n → Makes base (insE x) x
  | n, x, hn => by
    by_cases h0 : x = []
    · subst h0; rw [insE_nil]; exact makes_nil base
    · rw [insE_some x h0]
      have hl : 0 < x.length := List.length_pos_iff.2 h0
      match n, hn with
      | 0, hn => omega
      | n + 1, hn =>
        have ih := makes_insE base n (x.drop 127) (by rw [List.length_drop]; omega)
        have h1 := makes_app (makes_ins base (x.take 127) (min x.length 127) (by rw [List.length_take, Nat.min_comm]) (by omega) (by omega)) ih
        rw [List.take_append_drop] at h1
        simpa using h1
theorem eb_pre (x : Nat) (j : Nat) : ∀ d, ∃ r, eb x (j + d) = eb x j ++ r
  | 0 => ⟨[], by simp⟩
  | d + 1 => by
    obtain ⟨r, hr⟩ := eb_pre x j d
    exact ⟨r ++ (if byI x (j + d) = 0 then [] else [UInt8.ofNat (byI x (j + d))]), by rw [← Nat.add_assoc, eb, hr, List.append_assoc]⟩
theorem mod_next (x j : Nat) : x % 2 ^ (8 * (j + 1)) = x % 2 ^ (8 * j) + byI x j * 2 ^ (8 * j) := by
  unfold byI
  rw [show 8 * (j + 1) = 8 * j + 8 by omega, Nat.pow_add, show (2 : Nat) ^ 8 = 256 from rfl, Nat.mod_mul, Nat.mul_comm (2 ^ (8 * j)) (x / _ % 256)]
theorem nb_dec (x n m : Nat) (P S : List UInt8) (hm : ∀ i, i < n → m / 2 ^ i % 2 = if byI x i = 0 then 0 else 1) :
    ∀ j, j ≤ n → nbL (BA (P ++ (eb x n ++ S))) m n 0 0 P.length = nbL (BA (P ++ (eb x n ++ S))) m (n - j) j (x % 2 ^ (8 * j)) (P.length + (eb x j).length)
  | 0, _ => by simp [eb, Nat.mod_one]
  | j + 1, hj => by
    rw [nb_dec x n m P S hm j (by omega), show n - j = (n - (j + 1)) + 1 by omega]
    have hb := hm j (by omega)
    by_cases h0 : byI x j = 0
    · rw [if_pos h0] at hb
      rw [nbL_skip _ m _ j _ _ (by omega), mod_next, h0, Nat.zero_mul, eb, if_pos h0, List.append_nil]
      rfl
    · rw [if_neg h0] at hb
      obtain ⟨r, hr⟩ := eb_pre x (j + 1) (n - (j + 1))
      rw [show j + 1 + (n - (j + 1)) = n by omega] at hr
      have e1 : eb x (j + 1) = eb x j ++ [UInt8.ofNat (byI x j)] := by rw [eb, if_neg h0]
      have e2 : P ++ (eb x n ++ S) = (P ++ eb x j) ++ UInt8.ofNat (byI x j) :: (r ++ S) := by rw [hr, e1]; simp
      have hlt : P.length + (eb x j).length < (BA (P ++ (eb x n ++ S))).size := by rw [e2, ba_size]; simp
      have hg : (BA (P ++ (eb x n ++ S)))[P.length + (eb x j).length]'hlt = UInt8.ofNat (byI x j) := by
        have := ba_get (P ++ eb x j) (r ++ S) (UInt8.ofNat (byI x j)) (P.length + (eb x j).length) (by simp) (by rw [← e2]; exact hlt)
        simp only [← e2] at this
        exact this
      rw [nbL_one _ m _ j _ _ (byI x j) (by omega) hlt (by rw [hg, byte_nat _ (byI_lt x j)]), mod_next, e1, List.length_append]
      rfl
theorem em4 (x : Nat) : ∃ a b c d, em x 4 = a + 2 * b + 4 * c + 8 * d ∧ em x 3 = a + 2 * b + 4 * c ∧ a ≤ 1 ∧ b ≤ 1 ∧ c ≤ 1 ∧ d ≤ 1 ∧ (if byI x 0 = 0 then 0 else 1) = a ∧ (if byI x 1 = 0 then 0 else 1) = b ∧ (if byI x 2 = 0 then 0 else 1) = c ∧ (if byI x 3 = 0 then 0 else 1) = d := by
  refine ⟨_,_,_,_, ?_, ?_, ?_, ?_, ?_, ?_, rfl, rfl, rfl, rfl⟩
  · simp only [em]
    by_cases h0 : byI x 0 = 0 <;> by_cases h1 : byI x 1 = 0 <;> by_cases h2 : byI x 2 = 0 <;> by_cases h3 : byI x 3 = 0 <;> simp [h0, h1, h2, h3]
  · simp only [em]
    by_cases h0 : byI x 0 = 0 <;> by_cases h1 : byI x 1 = 0 <;> by_cases h2 : byI x 2 = 0 <;> simp [h0, h1, h2]
  all_goals (split <;> omega)
theorem makes_copy (base : ByteArray) (p n : Nat) (hp : p < 4294967296) (hn : n < 16777216) (h0 : 0 < n) (hb : p + n ≤ base.size) : Makes base (cpE p n) (base.extract p (p + n)).data.toList := by
  obtain ⟨pa, pb, pc, pd, ep4, _, la, lb, lc, ld, ia, ib, ic, id⟩ := em4 p
  obtain ⟨na, nb, nc, _,_, en3, ka, kb, kc, _, ja, jb, jc, _⟩ := em4 n
  refine makes_one (by simp [cpE]) ?_
  intro P S
  obtain ⟨c, hc⟩ : ∃ c, c = 128 + em p 4 + 16 * em n 3 := ⟨_, rfl⟩
  have c256 : c < 256 := by omega
  have e0 : cpE p n = UInt8.ofNat c :: (eb p 4 ++ eb n 3) := by unfold cpE; rw [← hc]
  have e1 : P ++ (cpE p n ++ S) = P ++ UInt8.ofNat c :: (eb p 4 ++ eb n 3 ++ S) := by rw [e0]; simp
  have e2 : P ++ (cpE p n ++ S) = (P ++ [UInt8.ofNat c]) ++ (eb p 4 ++ (eb n 3 ++ S)) := by rw [e0]; simp
  have e3 : P ++ (cpE p n ++ S) = (P ++ [UInt8.ofNat c] ++ eb p 4) ++ (eb n 3 ++ S) := by rw [e0]; simp
  have hlt : P.length < (BA (P ++ (cpE p n ++ S))).size := by rw [e1, ba_size]; simp
  have hg : (BA (P ++ (cpE p n ++ S)))[P.length]'hlt = UInt8.ofNat c := by
    have := ba_get P (eb p 4 ++ eb n 3 ++ S) (UInt8.ofNat c) P.length rfl (by rw [← e1]; exact hlt)
    simp only [← e1] at this
    exact this
  have d1 : nbL (BA (P ++ (cpE p n ++ S))) c 4 0 0 (P.length + 1) = (p, P.length + 1 + (eb p 4).length, 0) := by
    have := nb_dec p 4 c (P ++ [UInt8.ofNat c]) (eb n 3 ++ S) (by
      intro i hi
      match i, hi with
      | 0, _ => rw [ia]; omega
      | 1, _ => rw [ib]; omega
      | 2, _ => rw [ic]; omega
      | 3, _ => rw [id]; omega) 4 (Nat.le_refl _)
    rw [← e2, List.length_append] at this
    rw [show P.length + [UInt8.ofNat c].length = P.length + 1 from rfl] at this
    rw [this]
    simp only [Nat.sub_self, nbL]
    rw [Nat.mod_eq_of_lt hp]
  have d2 : nbL (BA (P ++ (cpE p n ++ S))) (c / 16) 3 0 0 (P.length + 1 + (eb p 4).length) = (n, P.length + 1 + (eb p 4).length + (eb n 3).length, 0) := by
    have := nb_dec n 3 (c / 16) (P ++ [UInt8.ofNat c] ++ eb p 4) S (by
      intro i hi
      match i, hi with
      | 0, _ => rw [ja]; omega
      | 1, _ => rw [jb]; omega
      | 2, _ => rw [jc]; omega) 3 (Nat.le_refl _)
    rw [← e3, List.length_append, List.length_append] at this
    rw [show P.length + [UInt8.ofNat c].length = P.length + 1 from rfl] at this
    rw [this]
    simp only [Nat.sub_self, nbL]
    rw [Nat.mod_eq_of_lt hn]
  refine ⟨_, ?_, rfl⟩
  rw [inL_copy base _ P.length c hlt (by rw [hg, byte_nat c c256]) (by omega) _ d1 rfl _ d2 rfl n (if_neg (by simp only; omega)) (by simp only; omega)]
  have : (cpE p n).length = 1 + (eb p 4).length + (eb n 3).length := by rw [e0, List.length_cons, List.length_append]; omega
  rw [this]
  simp only [Prod.mk.injEq, true_and, and_true]
  omega
end Go.Proofs.YtddoemeellbhaaaGreatDoor.Dlt
namespace Go.Proofs.YtddoemeellbhaaaGreatDoor.Dlt
open Go.RowKit
theorem sz_dec (n : Nat) (P S : List UInt8) (hn : n < 16384) : szL (BA (P ++ (szE n ++ S))) P.length 5 0 0 = (n, P.length + (szE n).length, 0) := by
  by_cases h : n < 128
  · have e : szE n = [UInt8.ofNat n] := szE_last n h
    have e1 : P ++ (szE n ++ S) = P ++ UInt8.ofNat n :: S := by rw [e]; rfl
    rw [e1, e]
    have hlt : P.length + 0 < (BA (P ++ UInt8.ofNat n :: S)).size := by rw [ba_size]; simp
    have hg := ba_get P S (UInt8.ofNat n) (P.length + 0) rfl hlt
    rw [szL_last _ _ 4 0 0 n hlt (by rw [hg, byte_nat n (by omega)]) h]
    simp
  · have e : szE n = [UInt8.ofNat (n % 128 + 128), UInt8.ofNat (n / 128)] := by rw [szE_more n h, szE_last (n / 128) (by omega)]
    have e1 : P ++ (szE n ++ S) = P ++ UInt8.ofNat (n % 128 + 128) :: (UInt8.ofNat (n / 128) :: S) := by rw [e]; rfl
    have e2 : P ++ UInt8.ofNat (n % 128 + 128) :: (UInt8.ofNat (n / 128) :: S) = (P ++ [UInt8.ofNat (n % 128 + 128)]) ++ UInt8.ofNat (n / 128) :: S := by simp
    rw [e1, e]
    have hlt : P.length + 0 < (BA (P ++ UInt8.ofNat (n % 128 + 128) :: (UInt8.ofNat (n / 128) :: S))).size := by rw [ba_size]; simp
    have hg := ba_get P (UInt8.ofNat (n / 128) :: S) (UInt8.ofNat (n % 128 + 128)) (P.length + 0) rfl hlt
    have hlt2 : P.length + 1 < (BA ((P ++ [UInt8.ofNat (n % 128 + 128)]) ++ UInt8.ofNat (n / 128) :: S)).size := by rw [ba_size]; simp
    have hg2 := ba_get (P ++ [UInt8.ofNat (n % 128 + 128)]) S (UInt8.ofNat (n / 128)) (P.length + 1) (by simp) hlt2
    rw [szL_more _ _ 4 0 0 (n % 128 + 128) hlt (by rw [hg, byte_nat _ (by omega)]) (by omega)]
    rw [e2]
    rw [szL_last _ _ 3 1 _ (n / 128) hlt2 (by rw [hg2, byte_nat _ (by omega)]) (by omega)]
    simp only [List.length_cons, List.length_nil, Prod.mk.injEq, and_true]
    omega
theorem szE_len (n : Nat) (hn : n < 16384) : (szE n).length ≤ 2 ∧ 1 ≤ (szE n).length := by
  by_cases h : n < 128
  · rw [szE_last n h]; simp
  · rw [szE_more n h, szE_last (n / 128) (by omega)]; simp
theorem insE_len : ∀ (n : Nat) (x : List UInt8), x.length ≤ n → (insE x).length = x.length + (x.length + 126) / 127
  | n, x, hn => by
    by_cases h0 : x = []
    · subst h0; rw [insE_nil]; rfl
    · have hl : 0 < x.length := List.length_pos_iff.2 h0
      rw [insE_some x h0, List.length_cons, List.length_append]
      match n, hn with
      | 0, hn => omega
      | n + 1, hn =>
        rw [insE_len n (x.drop 127) (by rw [List.length_drop]; omega), List.length_take, List.length_drop]
        omega
theorem sizes_dec (a b : Nat) (ds : List UInt8) (ha : a < 16384) (hb : b < 16384) : sizesL (BA ((szE a ++ szE b) ++ ds)) = (a, b, (szE a ++ szE b).length, 0) := by
  have h1 := sz_dec a [] (szE b ++ ds) ha
  have h2 := sz_dec b (szE a) ds hb
  have e1 : [] ++ (szE a ++ (szE b ++ ds)) = (szE a ++ szE b) ++ ds := by simp
  have e2 : szE a ++ (szE b ++ ds) = (szE a ++ szE b) ++ ds := by simp
  rw [e1] at h1
  rw [e2] at h2
  rw [List.length_nil, Nat.zero_add] at h1
  unfold sizesL
  rw [h1]
  simp only [h2, if_true, List.length_append]
theorem make_ok (base : ByteArray) (T ds : List UInt8) (most : Int) (hb : base.size < 16384) (ht : T.length < 16384) (hm : Makes base ds T) (hmost : (T.length : Int) ≤ most) :
    apL base (BA ((szE base.size ++ szE T.length) ++ ds)) most = (T, 0) := by
  have hs := sizes_dec base.size T.length ds hb ht
  unfold apL
  rw [hs]
  simp only [if_true]
  rw [if_neg (by omega)]
  obtain ⟨k', _, e⟩ := hm (szE base.size ++ szE T.length) [] T.length ((BA ((szE base.size ++ szE T.length) ++ ds)).size - (szE base.size ++ szE T.length).length) [] (by simp) (by rw [ba_size, List.length_append]; simp)
  rw [List.append_nil] at e
  rw [e, flL_end _ _ _ _ _ _ (by rw [ba_size]; simp only [List.length_append]; omega)]
  simp
theorem make_big (base : ByteArray) (T ds : List UInt8) (most : Int) (hb : base.size < 16384) (ht : T.length < 16384) (hmost : most < (T.length : Int)) :
    apL base (BA ((szE base.size ++ szE T.length) ++ ds)) most = ([], 2) := by
  unfold apL
  rw [sizes_dec base.size T.length ds hb ht]
  simp only [if_true]
  rw [if_pos hmost]
/-- A piece that two texts have in common. -/
theorem piece_eq (a b : ByteArray) (p q n : Nat) (ha : p + n ≤ a.size) (hb : q + n ≤ b.size) (h : ∀ i (hi : i < n), a[p + i] = b[q + i]) : (a.extract p (p + n)).data.toList = (b.extract q (q + n)).data.toList := by
  rw [ex_list, ex_list]
  have la : a.data.toList.length = a.size := by simp
  have lb : b.data.toList.length = b.size := by simp
  apply List.ext_getElem
  · rw [List.length_take, List.length_take, List.length_drop, List.length_drop]; omega
  · intro i h1 h2
    have hi : i < n := by rw [List.length_take] at h1; omega
    rw [List.getElem_take, List.getElem_take, List.getElem_drop, List.getElem_drop]
    exact h i hi
theorem extract_app (t : ByteArray) (a b c : Nat) (h1 : a ≤ b) (h2 : b ≤ c) : (t.extract a b).data.toList ++ (t.extract b c).data.toList = (t.extract a c).data.toList := by
  rw [ex_list, ex_list, ex_list]
  have e : t.data.toList.drop b = (t.data.toList.drop a).drop (b - a) := by rw [List.drop_drop]; congr 1; omega
  rw [e, ← List.take_add]
  congr 1
  omega
theorem ex_at (s : ByteArray) (a b i : Nat) (h : a + i < s.size) (h' : i < (s.extract a b).size) : (s.extract a b)[i] = s[a + i] := by
  simp [ByteArray.getElem_extract]
theorem piece_at (a b : ByteArray) (p q n : Nat) (ha : p + n ≤ a.size) (hb : q + n ≤ b.size) (h : (a.extract p (p + n)).data.toList = (b.extract q (q + n)).data.toList) (i : Nat) (hi : i < n) : a[p + i] = b[q + i] := by
  rw [ex_list, ex_list] at h
  have la : a.data.toList.length = a.size := by simp
  have lb : b.data.toList.length = b.size := by simp
  have h1 : i < ((a.data.toList.drop p).take (p + n - p)).length := by rw [List.length_take, List.length_drop]; omega
  have h2 : i < ((b.data.toList.drop q).take (q + n - q)).length := by rw [List.length_take, List.length_drop]; omega
  have e : ((a.data.toList.drop p).take (p + n - p))[i] = ((b.data.toList.drop q).take (q + n - q))[i] := by simp only [h]
  rw [List.getElem_take, List.getElem_take, List.getElem_drop, List.getElem_drop] at e
  exact e
/-- How long the copy is. -/
theorem copy_long (base t : ByteArray) (p a n : Nat) (hp : p + 16 ≤ base.size) (ha : a + 16 ≤ t.size) (hk : (base.extract p (p + 16)).data.toList = (t.extract a (a + 16)).data.toList)
    (hn : Alike (base.extract p base.size) (t.extract a t.size) n) : 16 ≤ n ∧ p + n ≤ base.size ∧ a + n ≤ t.size ∧ ∀ i (_ : i < n) (h1 : p + i < base.size) (h2 : a + i < t.size), base[p + i] = t[a + i] := by
  obtain ⟨h1, h2, h3, h4⟩ := hn
  have s1 : (base.extract p base.size).size = base.size - p := by simp
  have s2 : (t.extract a t.size).size = t.size - a := by simp
  have key : ∀ i (hi : i < n) (h1 : p + i < base.size) (h2 : a + i < t.size), base[p + i] = t[a + i] := by
    intro i hi g1 g2
    have := h3 i hi
    rw [ex_at base p base.size i g1, ex_at t a t.size i g2] at this
    exact this
  refine ⟨?_, by omega, by omega, key⟩
  rcases Nat.lt_or_ge n 16 with hl | hl
  · exfalso
    have := h4 (by omega) (by omega)
    rw [ex_at base p base.size n (by omega), ex_at t a t.size n (by omega)] at this
    exact this (piece_at base t p a 16 hp ha hk n hl)
  · exact hl
theorem back_long (base t : ByteArray) (p dn a k : Nat) (hp : p ≤ base.size) (hda : dn ≤ a) (ha : a ≤ t.size) (hk : Back (base.extract 0 p) (t.extract dn a) k) :
    k ≤ p ∧ k ≤ a - dn ∧ ∀ i (_ : i < k) (h1 : p - k + i < base.size) (h2 : a - k + i < t.size), base[p - k + i] = t[a - k + i] := by
  obtain ⟨h1, h2, h3⟩ := hk
  have s1 : (base.extract 0 p).size = p := by simp; omega
  have s2 : (t.extract dn a).size = a - dn := by simp; omega
  refine ⟨by omega, by omega, ?_⟩
  intro i hi g1 g2
  have h4 := h3 (k - 1 - i) (by omega)
  rw [ex_at base 0 p _ (by omega), ex_at t dn a _ (by omega)] at h4
  have e1 : 0 + ((base.extract 0 p).size - 1 - (k - 1 - i)) = p - k + i := by omega
  have e2 : dn + ((t.extract dn a).size - 1 - (k - 1 - i)) = a - k + i := by omega
  simp only [e1, e2] at h4
  exact h4
/-- One more copy, with what stands ahead of it. -/
theorem mk_step (base t : ByteArray) (p dn a k n : Nat) (ds : List UInt8) (hp : p + 16 ≤ base.size) (hda : dn ≤ a) (ha : a + 16 ≤ t.size) (hbs : base.size < 16384)
    (hkey : (base.extract p (p + 16)).data.toList = (t.extract a (a + 16)).data.toList) (hk : Back (base.extract 0 p) (t.extract dn a) k) (hn : Alike (base.extract p base.size) (t.extract a t.size) n)
    (hm : Makes base ds (t.extract 0 dn).data.toList) :
    Makes base (ds ++ insE (t.extract dn (a - k)).data.toList ++ cpE (p - k) (k + n)) (t.extract 0 (a + n)).data.toList := by
  obtain ⟨n16, pn, an, hcopy⟩ := copy_long base t p a n hp ha hkey hn
  obtain ⟨kp, ka, hback⟩ := back_long base t p dn a k (by omega) hda (by omega) hk
  have m1 := makes_insE base _ (t.extract dn (a - k)).data.toList (Nat.le_refl _)
  have m2 := makes_copy base (p - k) (k + n) (by omega) (by omega) (by omega) (by omega)
  have e2 : (base.extract (p - k) (p - k + (k + n))).data.toList = (t.extract (a - k) (a - k + (k + n))).data.toList := by
    refine piece_eq base t (p - k) (a - k) (k + n) (by omega) (by omega) ?_
    intro i hi
    by_cases hik : i < k
    · exact hback i hik (by omega) (by omega)
    · have := hcopy (i - k) (by omega) (by omega) (by omega)
      have e1 : p + (i - k) = p - k + i := by omega
      have e2 : a + (i - k) = a - k + i := by omega
      simp only [e1, e2] at this
      exact this
  rw [e2] at m2
  have m3 := makes_app (makes_app hm m1) m2
  rw [extract_app t 0 dn (a - k) (by omega) (by omega), extract_app t 0 (a - k) _ (by omega) (by omega), show a - k + (k + n) = a + n by omega] at m3
  exact m3
theorem step_len (t : ByteArray) (dn a k n p : Nat) (ds : List UInt8) (H : Nat) (_ : k ≤ a - dn) (hda : dn ≤ a) (ha : a ≤ t.size) (hn : 16 ≤ n) (h : H + ds.length ≤ 4 + dn + (dn + 126) / 127) :
    H + (ds ++ insE (t.extract dn (a - k)).data.toList ++ cpE p (k + n)).length ≤ 4 + (a + n) + (a + n + 126) / 127 := by
  have h1 := cpE_len p (k + n)
  have h2 : (t.extract dn (a - k)).data.toList.length = a - k - dn := by rw [ex_list, List.length_take, List.length_drop]; have : t.data.toList.length = t.size := by simp
                                                                         omega
  rw [List.length_append, List.length_append, insE_len _ _ (Nat.le_refl _), h2]
  omega
end Go.Proofs.YtddoemeellbhaaaGreatDoor.Dlt
namespace Go.Proofs.YtddoemeellbhaaaGreatDoor.Dlt
open Go.RowKit Go.Maps
/-- A delta that makes t of its base, in few bytes. -/
def IsDelta (base t d : ByteArray) : Prop := ∃ ds, d = BA ((szE base.size ++ szE t.size) ++ ds) ∧ Makes base ds t.data.toList ∧ (szE base.size ++ szE t.size).length + ds.length ≤ 5 + t.size + (t.size + 126) / 127
def MakePost (base t : ByteArray) (w : World) (e : Ending) (w' : World) : Prop := ∃ d, e = .returned (.string d) ∧ IsDelta base t d ∧ Below w.heap.size w w'
theorem MapAt.below {w w' : World} {b : Nat} {base : ByteArray} (h : MapAt w b base) (hb : w'.heap[b]? = w.heap[b]?) : MapAt w' b base := by
  obtain ⟨n, D, ⟨es, clock, h1, h2⟩, h3⟩ := h
  exact ⟨n, D, ⟨es, clock, hb.trans h1, h2⟩, h3⟩
set_option maxRecDepth 100000 in
theorem ba_len (s : ByteArray) : s.data.toList.length = s.size := by simp
theorem OwnB.conv {w : World} {B : Nat} {v : Value} {l : List UInt8} (h : OwnB w B v l) : (convert 81 9 v).run Tryz.prog w = .ok (.string ⟨l.toArray⟩) w := by
  rcases h.2 with ⟨rfl, hn⟩ | ⟨g, cap, cur, rfl, hb, hg, hnc, hcm, hcs, htake⟩
  · have : l = [] := List.eq_nil_of_length_eq_zero hn
    subst this
    rw [run_convert_bytes_string w 81 9 5 none 0 0 Tryz.underlying81 Tryz.underlying5 Tryz.underlying9]
    rfl
  · refine run_convert_bytes_back w 81 9 5 _ cap l Tryz.underlying81 Tryz.underlying5 Tryz.underlying9 ?_
    intro i hi
    have := World.ownsRow.cells (g := g) h rfl i (.int .u8 (l[i].toNat : Int)) (by simp [Lib.byteCells, hi])
    exact this
theorem wpList_look_hit {w : World} {ops : Array Oper} {rest : List Oper} {o : Oper} {a : Act} {Q : Exit → Act → World → Prop} (hg : o.guard = none) (m x : Operand) (hop : o.op = Op.lookup 82 m x true) (b n : Nat) (D : DataW Unit)
    (hm : a.eval m = .map (some b)) (hown : w.ownsMap Tryz.prog 9 (plainElem Tryz.prog 3) b n D) (s : ByteArray) (hx : a.eval x = .string s) (hs : s.size ≤ maxLen) (hf : Maps.has D (.string s.data.toList) = true) (base : ByteArray) (hG : GoodM base D)
    (hK : ∀ p : Nat, p + 16 ≤ base.size → (base.extract p (p + 16)).data.toList = s.data.toList → wpList Tryz.prog ops Q rest (a.put o.dst (.tuple #[.int .i64 (p : Int), .bool true])) w) :
    wpList Tryz.prog ops Q (o :: rest) a w := by
  refine wpList_look_f hg m x hop b n D hm hown s hx hs true hf ?_
  intro c hc
  obtain ⟨p, rfl, h1, h2⟩ := hG _ c hf hc
  exact hK p h1 h2
set_option maxHeartbeats 4000000 in
set_option maxRecDepth 50000 in
theorem make_any (base t : ByteArray) (w : World) (hb : base.size ≤ 4000) (ht : t.size ≤ 4000) :
    Calls Tryz.prog 29 #[.string base, .string t] w fun e w' => MakePost base t w e w' := by
  go_enter Tryz.func29, Tryz.ntmps29
  go_wp2_with fail
  refine (blocks_any base w (by omega)).mono ?_
  rintro e w1 ⟨rfl, hM1, hB1⟩
  obtain ⟨b, hbm⟩ : ∃ b, b = w.heap.size := ⟨_, rfl⟩
  rw [← hbm] at hM1 hB1
  rw [← hbm]
  obtain ⟨B, hBB⟩ : ∃ B, B = w1.heap.size := ⟨_, rfl⟩
  have hbB : b < B := by
    obtain ⟨n, D, h, _⟩ := hM1
    rw [hBB]; exact h.lt
  have HBM := hidM hbm
  have hBw : B ≤ w1.heap.size := by omega
  clear hbm hBB
  go_wp2_with fail
  refine (appendSize_any B (.slice none 0 0) [] base.size w1 (ownB_nil w1 B) hBw (by simp) (by omega)).mono ?_
  rintro e w2 ⟨v2, rfl, hO2, hB2⟩
  have hl2 := szE_len base.size (by omega)
  have hl3 := szE_len t.size (by omega)
  go_wp2_with fail
  refine (appendSize_any B v2 _ t.size w2 hO2 (by have := hB2.size; omega) (by simp; omega) (by omega)).mono ?_
  rintro e w3 ⟨v3, rfl, hO3, hB3⟩
  rw [List.nil_append] at hO3
  obtain ⟨hd, hhd⟩ : ∃ hd, hd = szE base.size ++ szE t.size := ⟨_, rfl⟩
  rw [← hhd] at hO3
  have hhl : hd.length ≤ 4 := by rw [hhd, List.length_append]; omega
  have hM3 : MapAt w3 b base := hM1.below ((hB3.block b hbB).trans (hB2.block b hbB))
  have hB13 : Below b w w3 := hB1.trans ((hB2.trans hB3).mono (by omega))
  have hS3 : B ≤ w3.heap.size := by have := hB2.size; have := hB3.size; omega
  have HH := hidM (And.intro HBM.out hhd)
  clear HBM hhd hB1 hB2 hB3 hO2 hM1 hl2 hl3
  go_wp2
  go_loopw [6, 7, 8] (fun d x y wr => ∃ (dn a : Nat) (ds : List UInt8), dn ≤ a ∧ a ≤ t.size ∧ x = .int .i64 (dn : Int) ∧ y = .int .i64 (a : Int) ∧ OwnB wr B d (hd ++ ds) ∧ MapAt wr b base ∧ Below b w wr ∧ B ≤ wr.heap.size ∧ Makes base ds (t.extract 0 dn).data.toList ∧ hd.length + ds.length ≤ 4 + dn + (dn + 126) / 127) (fun _ _ y _ => t.size - (intOf y).toNat)
  case atStart => exact ⟨0, 0, [], Nat.le_refl _, Nat.zero_le _, rfl, rfl, by rw [List.append_nil]; exact hO3, hM3, hB13, hS3, by rw [ex_list]; simpa using makes_nil base, by simp; omega⟩
  case round =>
    obtain ⟨dn, a, ds, hda, hat, rfl, rfl, hO, hM, hBl, hS, hMk, hLen⟩ := hrel
    have HO := hidM hO
    have HB := hidM hBl
    have HM := hidM hM
    have HMK := hidM hMk
    have HLEN := hidM hLen
    have hbr : b < wr.heap.size := by omega
    obtain ⟨n, D, hown, hG⟩ := hM
    have HOWN := hidM hown
    have HG := hidM hG
    clear hO hBl hMk hLen hown hG hO3 hM3 hB13 hS3
    obtain ⟨z, hz⟩ : ∃ z, a + 16 = z := ⟨_, rfl⟩
    have hz' : (a : Int) + 16 = (z : Int) := by omega
    by_cases h16 : z ≤ t.size
    · have h16' : (z : Int) ≤ t.size := by omega
      have haz : a ≤ z := by omega
      have hxs : (t.extract a z).size ≤ maxLen := by simp only [ByteArray.size_extract]; unfold maxLen; omega
      have HZ := hidM hz
      clear hz
      cases hf : Maps.has D (.string (t.extract a z).data.toList) with
      | false =>
        have HF := hidM hf
        clear hf
        go_wp2_with (first
          | (at_lookup; go_loud (refine wpList_look_f rfl _ _ rfl b n D rfl HOWN.out _ rfl hxs false HF.out ?_; intro c hAt; clear hAt)))
        refine ⟨⟨dn, a + 1, ds, by omega, by have := HZ.out; omega, rfl, by go_num, HO.out, HM.out, HB.out, hS, HMK.out, HLEN.out⟩, ?_⟩
        simp [intOf]; have := HZ.out; omega
      | true =>
        have HF := hidM hf
        clear hf
        go_wp2_with (first
          | (at_lookup; go_loud (refine wpList_look_hit rfl _ _ rfl b n D rfl HOWN.out _ rfl hxs HF.out base HG.out ?_; intro p hp hkey; have HKEY := hidM hkey; clear hkey)))
        have hz := HZ.out
        have hkey := HKEY.out
        rw [← hz] at hkey
        have hbk := (bck_spec (base.extract 0 p) (t.extract dn a)).1
        have hal := alk_spec (base.extract p base.size) (t.extract a t.size)
        have C1 : ∀ m, Calls Tryz.prog 63 #[.string (base.extract 0 p), .string (t.extract dn a)] (wr.drewN m) fun e w' => BackPost (base.extract 0 p) (t.extract dn a) (wr.drewN m) e w' := fun m =>
          back_any (base.extract 0 p) (t.extract dn a) (wr.drewN m) (by simp only [ByteArray.size_extract]; omega) (by simp only [ByteArray.size_extract]; omega)
        have C2 : ∀ V, Calls Tryz.prog 64 #[.string (base.extract p base.size), .string (t.extract a t.size)] V fun e w' => AlikePost (base.extract p base.size) (t.extract a t.size) V e w' := fun V =>
          alike_any (base.extract p base.size) (t.extract a t.size) V (by simp only [ByteArray.size_extract]; omega) (by simp only [ByteArray.size_extract]; omega)
        obtain ⟨k, hkk⟩ : ∃ k, bck (base.extract 0 p) (t.extract dn a) = k := ⟨_, rfl⟩
        obtain ⟨l, hll⟩ : ∃ l, alk (base.extract p base.size) (t.extract a t.size) = l := ⟨_, rfl⟩
        unfold BackPost at C1
        unfold AlikePost at C2
        rw [hkk] at hbk C1
        rw [hll] at hal C2
        obtain ⟨l16, pl, al, _⟩ := copy_long base t p a l hp (by omega) hkey hal
        obtain ⟨kp, ka, _⟩ := back_long base t p dn a k (by omega) hda (by omega) hbk
        have HST := hidM (mk_step base t p dn a k l ds hp hda (by omega) (by omega) hkey hbk hal HMK.out)
        have HSL := hidM (step_len t dn a k l (p - k) ds hd.length ka hda (by omega) l16 HLEN.out)
        have D1 : ∀ m, Calls Tryz.prog 63 #[.string (base.extract 0 p), .string (t.extract dn a)] (wr.drewN m) fun e w' => e = .returned (.int .i64 (k : Int)) ∧ ∃ m', w' = wr.drewN m' := fun m => Calls.quiet_of (C1 m)
        clear hkk hll hbk hal hkey C1 hz
        go_quiet (with_reducible exact D1 _)
        go_wp2
        obtain ⟨V, hV⟩ : ∃ V, V = wr.drewN nq := ⟨_, rfl⟩
        have D2 : ∀ m, Calls Tryz.prog 64 #[.string (base.extract p base.size), .string (t.extract a t.size)] (V.drewN m) fun e w' => e = .returned (.int .i64 (l : Int)) ∧ ∃ m', w' = V.drewN m' := fun m => Calls.quiet_of (C2 _)
        have HO1 := hidM (show OwnB V B u6 (hd ++ ds) by rw [hV]; exact HO.out.same (fun _ _ => rfl))
        have HM1 := hidM (show MapAt V b base by rw [hV]; exact HM.out.below rfl)
        have HB1 := hidM (show Below b w V by rw [hV]; exact ⟨HB.out.os, HB.out.tape, HB.out.output, HB.out.size, HB.out.block⟩)
        have hS1 : B ≤ V.heap.size := by rw [hV]; exact hS
        rw [← hV]
        clear hV HO HM HB hS C2 D1 HOWN
        go_quiet (with_reducible exact D2 _)
        obtain ⟨W, hW⟩ : ∃ W, W = V.drewN nq := ⟨_, rfl⟩
        have HO2 := hidM (show OwnB W B u6 (hd ++ ds) by rw [hW]; exact HO1.out.same (fun _ _ => rfl))
        have HM2 := hidM (show MapAt W b base by rw [hW]; exact HM1.out.below rfl)
        have HB2 := hidM (show Below b w W by rw [hW]; exact ⟨HB1.out.os, HB1.out.tape, HB1.out.output, HB1.out.size, HB1.out.block⟩)
        have hS2 : B ≤ W.heap.size := by rw [hW]; exact hS1
        rw [← hW]
        clear hW HO1 HM1 HB1 hS1 D2
        obtain ⟨q, hq⟩ : ∃ q, q = a - k := ⟨_, rfl⟩
        have hq' : (a : Int) - k = (q : Int) := by omega
        have hqd : dn ≤ q := by omega
        have hqt : q ≤ t.size := by omega
        have HQ := hidM hq
        clear hq
        obtain ⟨p2, hp2⟩ : ∃ p2, p2 = p - k := ⟨_, rfl⟩
        have hp2' : (p : Int) - k = (p2 : Int) := by omega
        obtain ⟨m, hm⟩ : ∃ m, m = k + l := ⟨_, rfl⟩
        have hm' : (k : Int) + l = (m : Int) := by omega
        obtain ⟨r, hr⟩ : ∃ r, r = a + l := ⟨_, rfl⟩
        have hr' : (q : Int) + m = (r : Int) := by have := HQ.out; omega
        have hrt : r ≤ t.size := by omega
        have har : a < r := by omega
        have hm0 : 0 < m := by omega
        have hm6 : m < 65536 := by omega
        have hp26 : p2 ≤ 1000000 := by omega
        have hqs : (t.extract dn q).size ≤ 1000000 := by simp only [ByteArray.size_extract]; omega
        have hdl : (hd ++ ds).length ≤ 10000 := by rw [List.length_append]; have := HLEN.out; omega
        have hil := insE_len _ (t.extract dn q).data.toList (Nat.le_refl _)
        have hql : (t.extract dn q).data.toList.length ≤ 4000 := by
          rw [ba_len]; simp only [ByteArray.size_extract]; omega
        have hdl2 : (hd ++ ds ++ insE (t.extract dn q).data.toList).length ≤ 100000 := by rw [List.length_append, hil]; omega
        have hst := HST.out
        have hsl := HSL.out
        rw [← HQ.out, ← hp2, ← hm] at hst hsl
        rw [← hr] at hst hsl
        have HST2 := hidM hst
        have HSL2 := hidM hsl
        clear hst hsl HST HSL hp2 hm hr hil hql
        go_wp2_with fail
        refine (inserts_any B u6 _ (t.extract dn q) W HO2.out hS2 (by omega) hqs).mono ?_
        rintro e w4 ⟨v4, rfl, hO4, hB4⟩
        have hS4 : B ≤ w4.heap.size := Nat.le_trans hS2 hB4.size
        have HM4 := hidM (HM2.out.below (hB4.block b hbB))
        have HB4 := hidM (HB2.out.trans (hB4.mono (by omega)))
        have HO4 := hidM hO4
        clear hO4 hB4 HO2 HM2 HB2
        go_wp2_with fail
        refine (copies_any B v4 _ p2 m w4 HO4.out hS4 (by omega) hp26 hm6 hm0).mono ?_
        rintro e w5 ⟨v5, rfl, hO5, hB5⟩
        have hS5 : B ≤ w5.heap.size := Nat.le_trans hS4 hB5.size
        have HM5 := hidM (HM4.out.below (hB5.block b hbB))
        have HB5 := hidM (HB4.out.trans (hB5.mono (by omega)))
        have HO5 := hidM (show OwnB w5 B v5 (hd ++ (ds ++ insE (t.extract dn q).data.toList ++ cpE p2 m)) by
          have := hO5; simp only [List.append_assoc] at this ⊢; exact this)
        clear hO5 hB5 HO4 HM4 HB4
        go_wp2
        refine ⟨⟨r, r, _, Nat.le_refl _, hrt, rfl, rfl, HO5.out, HM5.out, HB5.out, hS5, HST2.out, HSL2.out⟩, ?_⟩
        simp [intOf]; omega
    · have h16' : ¬ (z : Int) ≤ t.size := by omega
      have hql : (t.extract dn t.size).data.toList.length ≤ 4000 := by
        rw [ba_len]; simp only [ByteArray.size_extract]; omega
      have hdl : (hd ++ ds).length ≤ 10000 := by rw [List.length_append]; have := HLEN.out; omega
      have hqs : (t.extract dn t.size).size ≤ 1000000 := by simp only [ByteArray.size_extract]; omega
      go_wp2_with fail
      refine (inserts_any B u6 _ (t.extract dn t.size) wr HO.out hS (by omega) hqs).mono ?_
      rintro e w4 ⟨v4, rfl, hO4, hB4⟩
      have HB4 := hidM (HB.out.trans (hB4.mono (by omega)))
      have HO4 := hidM hO4
      have hcv := hO4.conv
      have hil := insE_len _ (t.extract dn t.size).data.toList (Nat.le_refl _)
      have hxl : (t.extract dn t.size).data.toList.length = t.size - dn := by rw [ba_len]; simp only [ByteArray.size_extract]; omega
      have hmk := makes_app HMK.out (makes_insE base _ (t.extract dn t.size).data.toList (Nat.le_refl _))
      rw [extract_app t 0 dn t.size (Nat.zero_le _) (by omega)] at hmk
      have e0 : (t.extract 0 t.size).data.toList = t.data.toList := by rw [ex_list, List.drop_zero, List.take_of_length_le (by rw [ba_len]; omega)]
      rw [e0] at hmk
      have HD := hidM (show IsDelta base t (BA (hd ++ ds ++ insE (t.extract dn t.size).data.toList)) from by
        refine ⟨ds ++ insE (t.extract dn t.size).data.toList, by rw [← HH.out.2, List.append_assoc], hmk, ?_⟩
        rw [← HH.out.2, List.length_append, hil, hxl]
        have := HLEN.out
        omega)
      obtain ⟨d, hdd⟩ : ∃ d, d = BA (hd ++ ds ++ insE (t.extract dn t.size).data.toList) := ⟨_, rfl⟩
      rw [← hdd] at HD
      have hcv2 : (convert 81 9 v4).run Tryz.prog w4 = .ok (.string d) w4 := by rw [hdd]; exact hcv
      clear hO4 hB4 HO HB HM hcv hil hxl hmk e0 hdd HO4 HOWN
      go_wp2
      go_ret
      exact ⟨d, rfl, HD.out, by rw [← HH.out.1]; exact HB4.out⟩
end Go.Proofs.YtddoemeellbhaaaGreatDoor.Dlt
