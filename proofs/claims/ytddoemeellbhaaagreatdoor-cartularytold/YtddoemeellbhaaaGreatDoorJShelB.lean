/-
  Taken over from another program: DltC.
  DERIVED: THE SHELF's CONTRACTS AT THIS DUMP, IN PLAIN WORDS (tools/lay-plain.mjs out of 'YtddoemeellbhaaaGreatDoorShelB.lean', which tools/lay-shelf.mjs wrote): THE SAME DECLARATIONS UNDER THE SAME NAMES: 'import', 'namespace', 'open', 'def', 'theorem' AND NOTHING ELSE: no command of the shelf's: FOR A HAND-IN. Each laying: the table of numbers ('.._ren') and one theorem, a field a fact of the dump's own or the kernel's comparison; each contract: ONE APPLICATION.
-/
import Derived.Test.YtddoemeellbhaaaGreatDoorJTDltB
import Derived.Shelf.Strings.Builder1
import Derived.Shelf.LaysM
import Derived.Test.YtddoemeellbhaaaGreatDoorProg
namespace Go.Proofs.YtddoemeellbhaaaGreatDoor.Dlt
open Go.RowKit
theorem i64_and_nat (a b : Nat) (ha : a < 9223372036854775808) (hb : b < 9223372036854775808) : bits .and .i64 (a : Int) (b : Int) = ((a &&& b : Nat) : Int) := by
  have hx : a &&& b < 2 ^ 63 := Nat.and_lt_two_pow _ (by omega)
  show IntKind.i64.wrap ((BitVec.ofInt 64 (a : Int) &&& BitVec.ofInt 64 (b : Int)).toNat : Int) = _
  rw [BitVec.toNat_and, ofInt_u64 a (by omega), ofInt_u64 b (by omega), IntKind.wrap_i64]
  omega
/-- Some bytes of a number: k places are still to come, i are done, x is what they said, t is where the next byte stands; the bits of m tell which bytes stand there. -/
def nbL (s : ByteArray) (m : Nat) : (k i x t : Nat) → Nat × Nat × Nat
  | 0, _, x, t => (x, t, 0)
  | k + 1, i, x, t =>
    if m / 2 ^ i % 2 = 1 then
      if h : t < s.size then nbL s m k (i + 1) (x + s[t].toNat * 2 ^ (8 * i)) (t + 1) else (0, 0, 6)
    else nbL s m k (i + 1) x t
theorem nbL_skip (s : ByteArray) (m k i x t : Nat) (h : ¬ m / 2 ^ i % 2 = 1) : nbL s m (k + 1) i x t = nbL s m k (i + 1) x t := by rw [nbL, if_neg h]
theorem nbL_no (s : ByteArray) (m k i x t : Nat) (h : m / 2 ^ i % 2 = 1) (ht : ¬ t < s.size) : nbL s m (k + 1) i x t = (0, 0, 6) := by rw [nbL, if_pos h, dif_neg ht]
theorem nbL_one (s : ByteArray) (m k i x t c : Nat) (h : m / 2 ^ i % 2 = 1) (ht : t < s.size) (hc : s[t].toNat = c) : nbL s m (k + 1) i x t = nbL s m k (i + 1) (x + c * 2 ^ (8 * i)) (t + 1) := by rw [nbL, if_pos h, dif_pos ht, hc]
theorem nbL_le (s : ByteArray) (m : Nat) : ∀ (k i x t : Nat), t ≤ s.size → (nbL s m k i x t).2.1 ≤ s.size
  | 0, _, x, t, h => h
  | k + 1, i, x, t, h => by
    rw [nbL]
    split
    · split
      · exact nbL_le s m k _ _ _ (by omega)
      · exact Nat.zero_le _
    · exact nbL_le s m k _ _ _ h
theorem nbL_ge (s : ByteArray) (m : Nat) : ∀ (k i x t : Nat), (nbL s m k i x t).2.2 = 0 → t ≤ (nbL s m k i x t).2.1
  | 0, _, x, t => by intro _; exact Nat.le_refl _
  | k + 1, i, x, t => by
    rw [nbL]
    split
    · split
      · intro h; have := nbL_ge s m k _ _ _ h; omega
      · intro h; simp at h
    · intro h; exact nbL_ge s m k _ _ _ h
theorem byte8 (x q i : Nat) (hx : x < 2 ^ (8 * i)) (hq : q < 256) : x + q * 2 ^ (8 * i) < 2 ^ (8 * (i + 1)) := by
  have e : 2 ^ (8 * (i + 1)) = 256 * 2 ^ (8 * i) := by rw [show 8 * (i + 1) = 8 + 8 * i by omega, Nat.pow_add]
  rw [e]
  have h1 : (q + 1) * 2 ^ (8 * i) ≤ 256 * 2 ^ (8 * i) := Nat.mul_le_mul_right _ (by omega)
  rw [Nat.add_mul] at h1
  omega
theorem nbL_lt (s : ByteArray) (m : Nat) : ∀ (k i x t : Nat), x < 2 ^ (8 * i) → (nbL s m k i x t).1 < 2 ^ (8 * (i + k))
  | 0, _, x, t, h => h
  | k + 1, i, x, t, h => by
    rw [nbL, show i + (k + 1) = (i + 1) + k by omega]
    split
    · split
      · exact nbL_lt s m k _ _ _ (byte8 _ _ _ h (by exact UInt8.toNat_lt _))
      · exact Nat.pow_pos (by decide)
    · refine nbL_lt s m k _ _ _ (Nat.lt_of_lt_of_le h (Nat.pow_le_pow_right (by decide) (by omega)))
theorem byte_or (n q k : Nat) (hk : k ≤ 3) (hn : n < 2 ^ (8 * k)) (hq : q < 256) : bits .or .i64 (n : Int) (wrap64 ((q : Int) * 2 ^ (8 * k))) = ((n + q * 2 ^ (8 * k) : Nat) : Int) := by
  have h0 := i64_or_add n q (8 * k) (by omega) hn hq
  have hp : 2 ^ (8 * k) ≤ 2 ^ 24 := Nat.pow_le_pow_right (by decide) (by omega)
  have e1 : ((q : Int) * 2 ^ (8 * k)) = ((q * 2 ^ (8 * k) : Nat) : Int) := by simp
  have h1 : q * 2 ^ (8 * k) < 256 * 2 ^ 24 := Nat.lt_of_lt_of_le (Nat.mul_lt_mul_of_pos_right hq (Nat.pow_pos (by decide))) (Nat.mul_le_mul_left _ hp)
  have e2 : wrap64 ((q * 2 ^ (8 * k) : Nat) : Int) = ((q * 2 ^ (8 * k) : Nat) : Int) := by
    have h2 : q * 2 ^ (8 * k) < 68719476736 := Nat.lt_of_lt_of_le h1 (by decide)
    generalize q * 2 ^ (8 * k) = x at h2
    unfold wrap64
    omega
  rw [e1, e2, ← e1]
  exact h0
theorem bit_test (m k : Nat) (hm : m < 256) : bits .and .i64 ((m : Int) / 2 ^ k) 1 = ((m / 2 ^ k % 2 : Nat) : Int) := by
  have e1 : ((m : Int) / 2 ^ k) = ((m / 2 ^ k : Nat) : Int) := by simp
  have h1 : m / 2 ^ k ≤ m := Nat.div_le_self _ _
  have h2 := i64_and_nat (m / 2 ^ k) 1 (by omega) (by omega)
  rw [e1]
  rw [show ((1 : Int)) = ((1 : Nat) : Int) from rfl, h2, Nat.and_one_is_mod]
set_option maxHeartbeats 1600000 in
set_option maxRecDepth 20000 in
theorem number_any (b : Nat) (s : ByteArray) (t m n : Nat) (w : World) (h : RBox w b s t) (hs : s.size ≤ 100000000000) (ht : t ≤ s.size) (hm : m < 256) (hn : n ≤ 4) :
    Calls Tryz.prog 164 #[.pointer (some ⟨b, 0, none⟩), .int .i64 (m : Int), .int .i64 (n : Int)] w fun e w' => SizePost b s w (nbL s m n 0 0 t) e w' := by
  go_enter Tryz.func164, Tryz.ntmps164
  go_wp2_with fail
  go_loopw [7, 10] (fun v i wr => ∃ (k x y : Nat), k ≤ n ∧ y ≤ s.size ∧ x < 2 ^ (8 * k) ∧ i = .int .i64 k ∧ v = .int .i64 x ∧ RBox wr b s y ∧ Only b w wr ∧ nbL s m n 0 0 t = nbL s m (n - k) k x y) (fun _ i _ => n - (intOf i).toNat)
  case atStart => exact ⟨0, 0, t, by omega, ht, by decide, rfl, rfl, h, Only.refl _ _, rfl⟩
  case round =>
    obtain ⟨k, x, y, hk, hy, hx, rfl, rfl, hB, hO, hz⟩ := hrel
    have HZ := hidM hz
    have HO := hidM hO
    have HX := hidM hx
    clear hO hz hx h
    by_cases hkn : k < n
    · have hkn' : (k : Int) < n := by omega
      have BT := hidM (bit_test m k hm)
      by_cases hbit : m / 2 ^ k % 2 = 1
      · have bt : bits .and .i64 ((m : Int) / 2 ^ k) 1 = 1 := by rw [BT.out, hbit]; rfl
        have HBI := hidM hbit
        clear hbit BT
        by_cases hlt : y < s.size
        · obtain ⟨c, hc⟩ : ∃ c, s[y].toNat = c := ⟨_, rfl⟩
          have c256 : c < 256 := by rw [← hc]; exact s[y].toNat_lt
          have HC := hidM hc
          go_wp2_with fail
          refine (next_ok b s wr y hB hs hlt c hc).mono ?_
          rintro e w1 ⟨rfl, hB1, hO1⟩
          have HO1 := hidM (HO.out.trans hO1)
          have HB1 := hidM hB1
          have OR := hidM (byte_or x c k (by omega) HX.out c256)
          have HN := hidM (byte8 x c k HX.out c256)
          clear hO1 hB1 HO hB hc
          go_wp2
          refine ⟨⟨k + 1, x + c * 2 ^ (8 * k), y + 1, by omega, by omega, HN.out, rfl, val_int OR.out, HB1.out, HO1.out, ?_⟩, ?_⟩
          · have hk5 : n - k = (n - (k + 1)) + 1 := by omega
            rw [HZ.out, hk5, nbL_one s m _ k x y c HBI.out hlt HC.out]
          · simp [intOf]; omega
        · go_wp2_with fail
          refine (next_no b s wr y hB hs hy hlt).mono ?_
          rintro e w1 ⟨rfl, hO1⟩
          have HO1 := hidM (HO.out.trans hO1)
          clear hO1 HO hB
          unfold gave
          go_wp2
          refine ⟨rfl, HO1.out, ?_⟩
          have hk5 : n - k = (n - (k + 1)) + 1 := by omega
          rw [HZ.out, hk5, nbL_no s m _ k x y HBI.out hlt]
          rfl
      · have bt : bits .and .i64 ((m : Int) / 2 ^ k) 1 = 0 := by rw [BT.out, show m / 2 ^ k % 2 = 0 by omega]; rfl
        have HBI := hidM hbit
        have HB := hidM hB
        clear hbit BT hB
        go_wp2
        refine ⟨⟨k + 1, x, y, by omega, hy, Nat.lt_of_lt_of_le HX.out (Nat.pow_le_pow_right (by decide) (by omega)), rfl, rfl, HB.out, HO.out, ?_⟩, ?_⟩
        · have hk5 : n - k = (n - (k + 1)) + 1 := by omega
          rw [HZ.out, hk5, nbL_skip s m _ k x y HBI.out]
        · simp [intOf]; omega
    · have hkn' : ¬ (k : Int) < n := by omega
      have HB := hidM hB
      clear hB
      go_wp2
      go_ret
      refine ⟨HO.out, ?_⟩
      rw [HZ.out, show n - k = 0 by omega]
      exact ⟨rfl, HB.out⟩
/-- What an instruction brings out: the piece, where the next one stands, the error's number. -/
def inL (base s : ByteArray) (t : Nat) : ByteArray × Nat × Nat :=
  if h : t < s.size then
    if s[t].toNat = 0 then (.empty, 0, 3)
    else if s[t].toNat < 128 then
      if t + 1 + s[t].toNat ≤ s.size then (s.extract (t + 1) (t + 1 + s[t].toNat), t + 1 + s[t].toNat, 0) else (.empty, 0, 6)
    else
      let p := nbL s s[t].toNat 4 0 0 (t + 1)
      if p.2.2 = 0 then
        let l := nbL s (s[t].toNat / 16) 3 0 0 p.2.1
        if l.2.2 = 0 then
          let n := if l.1 = 0 then 65536 else l.1
          if base.size < p.1 + n then (.empty, 0, 3) else (base.extract p.1 (p.1 + n), l.2.1, 0)
        else (.empty, 0, l.2.2)
      else (.empty, 0, p.2.2)
  else (.empty, 0, 6)
/-- What instruction leaves behind. -/
def InPost (b : Nat) (s : ByteArray) (w : World) (r : ByteArray × Nat × Nat) (e : Ending) (w' : World) : Prop :=
  Only b w w' ∧ if r.2.2 = 0 then e = .returned (.string r.1) ∧ RBox w' b s r.2.1 else e = gave r.2.2
theorem inL_zero (base s : ByteArray) (t : Nat) (h : t < s.size) (hc : s[t].toNat = 0) : inL base s t = (.empty, 0, 3) := by
  unfold inL; rw [dif_pos h, if_pos hc]
theorem inL_put (base s : ByteArray) (t c m : Nat) (h : t < s.size) (hc : s[t].toNat = c) (h0 : ¬ c = 0) (hl : c < 128) (hm : t + 1 + c = m) (hx : m ≤ s.size) : inL base s t = (s.extract (t + 1) m, m, 0) := by
  subst hc hm
  unfold inL; rw [dif_pos h, if_neg h0, if_pos hl, if_pos hx]
theorem inL_short (base s : ByteArray) (t c : Nat) (h : t < s.size) (hc : s[t].toNat = c) (h0 : ¬ c = 0) (hl : c < 128) (hx : s.size < t + 1 + c) : inL base s t = (.empty, 0, 6) := by
  subst hc
  unfold inL; rw [dif_pos h, if_neg h0, if_pos hl, if_neg (by omega)]
theorem inL_p (base s : ByteArray) (t c : Nat) (h : t < s.size) (hc : s[t].toNat = c) (hl : ¬ c < 128) (p : Nat × Nat × Nat) (hp : nbL s c 4 0 0 (t + 1) = p) (he : ¬ p.2.2 = 0) : inL base s t = (.empty, 0, p.2.2) := by
  subst hc hp
  unfold inL; rw [dif_pos h, if_neg (by omega), if_neg hl, if_neg he]
theorem inL_l (base s : ByteArray) (t c : Nat) (h : t < s.size) (hc : s[t].toNat = c) (hl : ¬ c < 128) (p : Nat × Nat × Nat) (hp : nbL s c 4 0 0 (t + 1) = p) (he : p.2.2 = 0)
    (l : Nat × Nat × Nat) (hll : nbL s (c / 16) 3 0 0 p.2.1 = l) (hle : ¬ l.2.2 = 0) : inL base s t = (.empty, 0, l.2.2) := by
  subst hc hp hll
  unfold inL; rw [dif_pos h, if_neg (by omega), if_neg hl, if_pos he, if_neg hle]
theorem inL_far (base s : ByteArray) (t c : Nat) (h : t < s.size) (hc : s[t].toNat = c) (hl : ¬ c < 128) (p : Nat × Nat × Nat) (hp : nbL s c 4 0 0 (t + 1) = p) (he : p.2.2 = 0)
    (l : Nat × Nat × Nat) (hll : nbL s (c / 16) 3 0 0 p.2.1 = l) (hle : l.2.2 = 0) (n : Nat) (hn : (if l.1 = 0 then 65536 else l.1) = n) (hx : base.size < p.1 + n) : inL base s t = (.empty, 0, 3) := by
  subst hc hp hll hn
  unfold inL; rw [dif_pos h, if_neg (by omega), if_neg hl, if_pos he, if_pos hle, if_pos hx]
theorem inL_copy (base s : ByteArray) (t c : Nat) (h : t < s.size) (hc : s[t].toNat = c) (hl : ¬ c < 128) (p : Nat × Nat × Nat) (hp : nbL s c 4 0 0 (t + 1) = p) (he : p.2.2 = 0)
    (l : Nat × Nat × Nat) (hll : nbL s (c / 16) 3 0 0 p.2.1 = l) (hle : l.2.2 = 0) (n : Nat) (hn : (if l.1 = 0 then 65536 else l.1) = n) (hx : ¬ base.size < p.1 + n) : inL base s t = (base.extract p.1 (p.1 + n), l.2.1, 0) := by
  subst hc hp hll hn
  unfold inL; rw [dif_pos h, if_neg (by omega), if_neg hl, if_pos he, if_pos hle, if_neg hx]
set_option maxHeartbeats 1600000 in
set_option maxRecDepth 20000 in
theorem instruction_any (b : Nat) (base s : ByteArray) (t : Nat) (w : World) (h : RBox w b s t) (hs : s.size ≤ 100000000000) (hlt : t < s.size) :
    Calls Tryz.prog 117 #[.pointer (some ⟨b, 0, none⟩), .string base] w fun e w' => InPost b s w (inL base s t) e w' := by
  obtain ⟨c, hc⟩ : ∃ c, s[t].toNat = c := ⟨_, rfl⟩
  have c256 : c < 256 := by rw [← hc]; exact s[t].toNat_lt
  have HC := hidM hc
  go_enter Tryz.func117, Tryz.ntmps117
  go_wp2_with fail
  refine (next_ok b s w t h hs hlt c hc).mono ?_
  rintro e w1 ⟨rfl, hB1, hO1⟩
  have HO1 := hidM hO1
  clear hO1 hc h
  by_cases h0 : c = 0
  · subst h0
    go_wp2
    refine ⟨rfl, HO1.out, ?_⟩
    rw [inL_zero base s t hlt HC.out]
    rfl
  have h0' : ¬ (c : Int) = 0 := by omega
  by_cases hl : c < 128
  · have hl' : (c : Int) < 128 := by omega
    by_cases hx : t + 1 + c ≤ s.size
    · go_wp2_with fail
      refine (take_ok b s (t + 1) c (t + 1 + c) w1 hB1 hs rfl (by omega) hx).mono ?_
      rintro e w2 ⟨rfl, hB2, hO2⟩
      have HO2 := hidM (HO1.out.trans hO2)
      have HB2 := hidM hB2
      clear hO2 hB2
      go_wp2
      go_ret
      refine ⟨HO2.out, ?_⟩
      rw [inL_put base s t c _ hlt HC.out h0 hl rfl hx]
      exact ⟨rfl, HB2.out⟩
    · go_wp2_with fail
      refine (take_no b s (t + 1) c w1 hB1 hs (by omega) (by omega) (by omega)).mono ?_
      rintro e w2 ⟨rfl, hO2⟩
      have HO2 := hidM (HO1.out.trans hO2)
      clear hO2
      unfold gave
      go_wp2
      refine ⟨rfl, HO2.out, ?_⟩
      rw [inL_short base s t c hlt HC.out h0 hl (by omega)]
      rfl
  have hl' : ¬ (c : Int) < 128 := by omega
  have hp := nbL_le s c 4 0 0 (t + 1) (by omega)
  have hpl := nbL_lt s c 4 0 0 (t + 1) (by decide)
  go_wp2_with fail
  refine (number_any b s (t + 1) c 4 w1 hB1 hs (by omega) c256 (by decide)).mono ?_
  intro e w2 hP
  obtain ⟨p, hpe⟩ : ∃ p, nbL s c 4 0 0 (t + 1) = p := ⟨_, rfl⟩
  rw [hpe] at hP hp hpl
  have HP := hidM hpe
  obtain ⟨px, pt, pe⟩ := p
  obtain ⟨hO2, hP⟩ := hP
  have HO2 := hidM (HO1.out.trans hO2)
  clear hO2 hpe
  by_cases hpz : pe = 0
  · rw [if_pos hpz] at hP
    obtain ⟨rfl, hB2⟩ := hP
    have px1 : px < 4294967296 := hpl
    have pt1 : pt ≤ s.size := hp
    clear hp hpl hB1
    have hB2 : RBox w2 b s pt := hB2
    have hq := nbL_le s (c / 16) 3 0 0 pt pt1
    have hql := nbL_lt s (c / 16) 3 0 0 pt (by decide)
    obtain ⟨d, hd⟩ : ∃ d, d = c / 16 := ⟨_, rfl⟩
    have hd' : (c : Int) / 16 = (d : Int) := by omega
    have d256 : d < 256 := by omega
    rw [← hd] at hq hql
    have HD := hidM hd
    clear hd
    go_wp2_with fail
    refine (number_any b s pt d 3 w2 hB2 hs pt1 d256 (by decide)).mono ?_
    intro e w3 hL
    obtain ⟨l, hle⟩ : ∃ l, nbL s d 3 0 0 pt = l := ⟨_, rfl⟩
    rw [hle] at hL hq hql
    rw [HD.out] at hle
    have HL := hidM hle
    obtain ⟨lx, lt, le⟩ := l
    obtain ⟨hO3, hL⟩ := hL
    have HO3 := hidM (HO2.out.trans hO3)
    clear hO3 hle
    by_cases hlz : le = 0
    · rw [if_pos hlz] at hL
      obtain ⟨rfl, hB3⟩ := hL
      have HB3 : Hid (RBox w3 b s lt) := hB3
      have lx1 : lx < 16777216 := hql
      have LT : lt ≤ s.size := hq
      clear hq hql hB2 hB3
      obtain ⟨n, hn⟩ : ∃ n, (if lx = 0 then 65536 else lx) = n := ⟨_, rfl⟩
      have n1 : n < 16777216 := by rw [← hn]; split <;> omega
      obtain ⟨m, hm⟩ : ∃ m, px + n = m := ⟨_, rfl⟩
      have m1 : px + n < 8589934592 := by omega
      have hm' : (px : Int) + n = (m : Int) := by omega
      have hpm : px ≤ m := by omega
      have HM := hidM hm
      have HN := hidM hn
      have key : ∀ (W : World), W = w3 → (¬ base.size < m → InPost b s w (inL base s t) (.returned (.string (base.extract px m))) W) ∧ (base.size < m → InPost b s w (inL base s t) (gave 3) W) := by
        intro W hW
        subst hW
        constructor
        · intro hx
          refine ⟨HO3.out, ?_⟩
          rw [inL_copy base s t c hlt HC.out hl _ HP.out hpz _ HL.out hlz n HN.out (by rw [HM.out]; exact hx), HM.out]
          exact ⟨rfl, HB3.out⟩
        · intro hx
          refine ⟨HO3.out, ?_⟩
          rw [inL_far base s t c hlt HC.out hl _ HP.out hpz _ HL.out hlz n HN.out (by rw [HM.out]; exact hx)]
          rfl
      have KEY := hidM (key w3 rfl)
      clear key HB3 HO3 HO2 HO1 HL HP HD hm hn
      by_cases hz : lx = 0
      · subst hz
        have hn65 : n = 65536 := HN.out.symm
        subst hn65
        have hm2 : (px : Int) + 65536 = (m : Int) := hm'
        have m2 : m < 8589934592 := by have := HM.out; omega
        clear m1 HN n1 lx1 hm'
        by_cases hx : base.size < m
        · have hx' : (base.size : Int) < m := by omega
          go_wp2
          exact ⟨rfl, KEY.out.2 hx⟩
        · have hx' : ¬ (base.size : Int) < m := by omega
          go_wp2
          go_ret
          exact KEY.out.1 hx
      · have hz' : ¬ (lx : Int) = 0 := by omega
        have hnl : n = lx := by have := HN.out; rw [if_neg hz] at this; exact this.symm
        subst hnl
        have m2 : m < 8589934592 := by have := HM.out; omega
        clear m1 HN n1 lx1
        by_cases hx : base.size < m
        · have hx' : (base.size : Int) < m := by omega
          go_wp2
          exact ⟨rfl, KEY.out.2 hx⟩
        · have hx' : ¬ (base.size : Int) < m := by omega
          go_wp2
          go_ret
          exact KEY.out.1 hx
    · rw [if_neg hlz] at hL
      subst hL
      unfold gave
      go_wp2
      refine ⟨rfl, HO3.out, ?_⟩
      rw [inL_l base s t c hlt HC.out hl _ HP.out hpz _ HL.out hlz]
      exact (if_neg hlz).mpr rfl
  · rw [if_neg hpz] at hP
    subst hP
    unfold gave
    go_wp2
    refine ⟨rfl, HO2.out, ?_⟩
    rw [inL_p base s t c hlt HC.out hl _ HP.out hpz]
    exact (if_neg hpz).mpr rfl
end Go.Proofs.YtddoemeellbhaaaGreatDoor.Dlt
namespace Go.Proofs
open Go.Shelf
def Tryz.lays170_ren : Go.Shelf.Ren := ⟨fun | 170 => 118 | n => n, fun | 70 => 138 | 3 => 3 | 0 => 0 | 72 => 140 | 37 => 81 | 5 => 5 | n => n, fun | n => n⟩
theorem Tryz.lays170 : Go.Proofs.Lays.n170 Tryz.prog Tryz.lays170_ren := {
  mixed := by kernel_rfl
  f170 := Tryz.func118.trans (congrArg some (by kernel_rfl))
  t0 := Tryz.underlying0
  a0 := Tryz.isAgg0
  z0 := Tryz.sizeOf0
  v0 := Tryz.zeroValue0
  t3 := Tryz.underlying3
  a3 := Tryz.isAgg3
  z3 := Tryz.sizeOf3
  v3 := Tryz.zeroValue3
  t37 := Tryz.underlying81
  a37 := Tryz.isAgg81
  z37 := Tryz.sizeOf81
  v37 := Tryz.zeroValue81
  t70 := Tryz.underlying138
  a70 := Tryz.isAgg138
  z70 := Tryz.sizeOf138
  v70 := Tryz.zeroValue138
  t72 := Tryz.underlying140
  a72 := Tryz.isAgg140
  z72 := Tryz.sizeOf140
  v72 := Tryz.zeroValue140 }
open Go.RowKit in
/-- (*strings.Builder).Len: "Len returns the number of accumulated bytes; b.Len() == len(b.String()).": the world is as it was. (LAID: no walk: one application.) -/
theorem Tryz.Builder_Len (B b : Nat) (bs : List Value) (w : World) (h : Lib.IsBuilder 140 5 B b bs w) :
    Calls Tryz.prog 118 #[.pointer (some ⟨b, 0, none⟩)] w fun e w' => e = .returned (.int .i64 bs.length) ∧ w' = w := Any.Builder_Len Tryz.lays170 B b bs w h
def Tryz.lays169_ren : Go.Shelf.Ren := ⟨fun | 169 => 120 | n => n, fun | 70 => 138 | 9 => 9 | 0 => 0 | 72 => 140 | 37 => 81 | 127 => 183 | 3 => 3 | 5 => 5 | n => n, fun | n => n⟩
theorem Tryz.lays169 : Go.Proofs.Lays.n169 Tryz.prog Tryz.lays169_ren := {
  mixed := by kernel_rfl
  f169 := Tryz.func120.trans (congrArg some (by kernel_rfl))
  t0 := Tryz.underlying0
  a0 := Tryz.isAgg0
  z0 := Tryz.sizeOf0
  v0 := Tryz.zeroValue0
  t3 := Tryz.underlying3
  a3 := Tryz.isAgg3
  z3 := Tryz.sizeOf3
  v3 := Tryz.zeroValue3
  t9 := Tryz.underlying9
  a9 := Tryz.isAgg9
  z9 := Tryz.sizeOf9
  v9 := Tryz.zeroValue9
  t37 := Tryz.underlying81
  a37 := Tryz.isAgg81
  z37 := Tryz.sizeOf81
  v37 := Tryz.zeroValue81
  t70 := Tryz.underlying138
  a70 := Tryz.isAgg138
  z70 := Tryz.sizeOf138
  v70 := Tryz.zeroValue138
  t72 := Tryz.underlying140
  a72 := Tryz.isAgg140
  z72 := Tryz.sizeOf140
  v72 := Tryz.zeroValue140
  t127 := Tryz.underlying183
  a127 := Tryz.isAgg183
  z127 := Tryz.sizeOf183
  v127 := Tryz.zeroValue183 }
theorem Tryz.Builder_Extra_169 : Builder.Extra Tryz.prog Tryz.lays169_ren := {
  sizeBuilder := by kernel_rfl
  liesBuilder := by kernel_rfl
  t5 := Tryz.underlying5
  a5 := Tryz.isAgg5
  z5 := Tryz.sizeOf5
  v5 := Tryz.zeroValue5
  infoByte := by kernel_rfl
  cellsByte := by kernel_rfl
  sizeByte := by kernel_rfl
  neB5 := by decide }
open Go.RowKit in
/-- (*strings.Builder).String: "String returns the accumulated string.": WHATEVER THE BUILDER HOLDS. (LAID: no walk: one application.) -/
theorem Tryz.Builder_String_any (B b : Nat) (l : List UInt8) (w : World) (h : Lib.IsBuilder 140 5 B b (Lib.byteCells l) w) (hBw : B ≤ w.heap.size) :
    Calls Tryz.prog 120 #[.pointer (some ⟨b, 0, none⟩)] w fun e w' => e = .returned (.string ⟨l.toArray⟩) ∧ Below B w w' := Any.Builder_String_any Tryz.lays169 Tryz.Builder_Extra_169 B b l w h hBw
def Tryz.lays166_ren : Go.Shelf.Ren := ⟨fun | 166 => 119 | 240 => 165 | 276 => 205 | n => n, fun | 70 => 138 | 9 => 9 | 3 => 3 | 75 => 142 | 0 => 0 | 4 => 4 | 72 => 140 | 164 => 225 | 37 => 81 | 5 => 5 | 20 => 20 | 80 => 133 | n => n, fun | n => n⟩
theorem Tryz.lays166 : Go.Proofs.Lays.n166 Tryz.prog Tryz.lays166_ren := {
  mixed := by kernel_rfl
  f166 := Tryz.func119.trans (congrArg some (by kernel_rfl))
  f240 := Tryz.func165.trans (congrArg some (by kernel_rfl))
  f276 := Tryz.func205.trans (congrArg some (by kernel_rfl))
  t0 := Tryz.underlying0
  a0 := Tryz.isAgg0
  z0 := Tryz.sizeOf0
  v0 := Tryz.zeroValue0
  t3 := Tryz.underlying3
  a3 := Tryz.isAgg3
  z3 := Tryz.sizeOf3
  v3 := Tryz.zeroValue3
  t4 := Tryz.underlying4
  a4 := Tryz.isAgg4
  z4 := Tryz.sizeOf4
  v4 := Tryz.zeroValue4
  t9 := Tryz.underlying9
  a9 := Tryz.isAgg9
  z9 := Tryz.sizeOf9
  v9 := Tryz.zeroValue9
  t20 := Tryz.underlying20
  a20 := Tryz.isAgg20
  z20 := Tryz.sizeOf20
  v20 := Tryz.zeroValue20
  t37 := Tryz.underlying81
  a37 := Tryz.isAgg81
  z37 := Tryz.sizeOf81
  v37 := Tryz.zeroValue81
  t70 := Tryz.underlying138
  a70 := Tryz.isAgg138
  z70 := Tryz.sizeOf138
  v70 := Tryz.zeroValue138
  t72 := Tryz.underlying140
  a72 := Tryz.isAgg140
  z72 := Tryz.sizeOf140
  v72 := Tryz.zeroValue140
  t75 := Tryz.underlying142
  a75 := Tryz.isAgg142
  z75 := Tryz.sizeOf142
  v75 := Tryz.zeroValue142
  t164 := Tryz.underlying225
  a164 := Tryz.isAgg225
  z164 := Tryz.sizeOf225
  v164 := Tryz.zeroValue225 }
theorem Tryz.Builder_Extra_166 : Builder.Extra Tryz.prog Tryz.lays166_ren := {
  sizeBuilder := by kernel_rfl
  liesBuilder := by kernel_rfl
  t5 := Tryz.underlying5
  a5 := Tryz.isAgg5
  z5 := Tryz.sizeOf5
  v5 := Tryz.zeroValue5
  infoByte := by kernel_rfl
  cellsByte := by kernel_rfl
  sizeByte := by kernel_rfl
  neB5 := by decide }
open Go.RowKit in
theorem Tryz.Builder_WriteString (B b : Nat) (bs : List Value) (s : ByteArray) (w : World) (h : Lib.IsBuilder 140 5 B b bs w) (hlen : bs.length + s.size ≤ 140737488355328) (hBw : B ≤ w.heap.size) :
    Calls Tryz.prog 119 #[.pointer (some ⟨b, 0, none⟩), .string s] w fun e w' => e = .returned (.tuple #[.int .i64 s.size, .nilIface]) ∧ (Lib.BuilderAt 140 5 B b (.pointer (some ⟨b, 0, none⟩)) (bs ++ Lib.strCells s) w' ∧ Below B w w') := Any.Builder_WriteString Tryz.lays166 Tryz.Builder_Extra_166 B b bs s w h hlen hBw
end Go.Proofs
