/-
  sums in this seat: Big, Adler32.
-/
import Derived.Test.YtkckobhpanghiaaDoorInfS
import Derived.WalkSpells
import Derived.WalkLawsBesides
import Derived.Laws.IdiomStrings
import Derived.Laws.BitsAllLaws
import Derived.Deep.QuietTactic
import Derived.BigQuiet
import Derived.OwnWalk
import Derived.Deep.RegionLaw
namespace Go.Proofs.YtkckobhpanghiaaDoor
open Go.RowKit

set_option maxRecDepth 100000 in
theorem take_snoc (s : ByteArray) (k : Nat) (h : k < s.size) : s.data.toList.take (k + 1) = s.data.toList.take k ++ [s[k]] := by
  rw [List.take_succ_eq_append_getElem (by simpa using h)]; rfl

/-- The bytes of x in n places, the lowest first. -/
def littleL (x : Nat) : Nat → List UInt8
  | 0 => []
  | n + 1 => UInt8.ofNat (x % 256) :: littleL (x / 256) n

def bigL (x n : Nat) : List UInt8 := (littleL x n).reverse

set_option maxRecDepth 100000 in
theorem littleL_len (n : Nat) : ∀ x, (littleL x n).length = n := by
  induction n with
  | zero => intro x; rfl
  | succ n ih => intro x; simp [littleL, ih]

set_option maxRecDepth 100000 in
theorem bigL_len (x n : Nat) : (bigL x n).length = n := by simp [bigL, littleL_len]

set_option maxRecDepth 100000 in
theorem littleL_zero (n : Nat) : littleL 0 n = List.replicate n 0 := by
  induction n with
  | zero => rfl
  | succ n ih => simp [littleL, ih, List.replicate_succ]

set_option maxRecDepth 100000 in
theorem bigL_zero (n : Nat) : bigL 0 n = List.replicate n 0 := by simp [bigL, littleL_zero]

set_option maxRecDepth 100000 in
theorem bigL_succ (x n : Nat) : bigL x (n + 1) = bigL (x / 256) n ++ [UInt8.ofNat (x % 256)] := by simp [bigL, littleL]

set_option maxRecDepth 100000 in
theorem set_last {α : Type} (k : Nat) (z c : α) (T : List α) : (List.replicate (k + 1) z ++ T).set k c = List.replicate k z ++ (c :: T) := by
  rw [List.replicate_succ']
  simp

set_option maxRecDepth 100000 in
theorem bytesV_rep (n : Nat) : bytesV (List.replicate n 0) = List.replicate n (.int .u8 0) := by simp [bytesV]

set_option maxRecDepth 100000 in
theorem bytesV_set (l : List UInt8) (j : Nat) (c : UInt8) : (bytesV l).set j (.int .u8 (c.toNat : Int)) = bytesV (l.set j c) := by simp [bytesV, List.map_set]

set_option maxRecDepth 100000 in
theorem u8_wrap (x : Nat) : IntKind.u8.wrap (x : Int) = ((UInt8.ofNat (x % 256)).toNat : Int) := by
  rw [byte_of, IntKind.wrap_u8']; omega

set_option maxHeartbeats 400000 in
set_option maxRecDepth 100000 in
theorem noughts_some (n : Nat) (w : World) (h0 : 1 ≤ n) (h1 : n ≤ 2147483647) :
    Calls Tryd.prog 88 #[.int .i64 n] w fun e w' => e = .returned (.slice (some ⟨w.heap.size, 0, none⟩) n n) ∧ w'.ownsRow w.heap.size 5 1 (.slice (some ⟨w.heap.size, 0, none⟩) n n) n (bytesV (List.replicate n 0)) ∧ Below w.heap.size w w' ∧ w.heap.size < w'.heap.size := by
  obtain ⟨i0, hi, hz0, hz1, hz2⟩ := info_parts Tryd.info5
  go_enter Tryd.func88, Tryd.ntmps88
  go_wp2_with (at_make; refine wpList_make_full _ rfl _ _ 34 rfl w.heap.size 5 i0 (.int .u8 0) 1 Tryd.underlying34 hi hz0 hz1 .i64 .i64 _ _ n rfl rfl rfl rfl ?c1 ?c2 ?c3 ?_)
  case c1 => rw [hz2]; omega
  case c2 => unfold maxLen; omega
  case c3 => exact Nat.le_refl _
  intro w1 hown hgrow
  have hlt := (hown.lt w.heap.size rfl).2
  have hown2 : w1.ownsRow w.heap.size 5 1 (.slice (some ⟨w.heap.size, 0, none⟩) n n) n (bytesV (List.replicate n 0)) := by
    rw [bytesV_rep, ← toList_madeCells_one]
    simpa using hown
  have hbel : Below w.heap.size w w1 := (Below.refl _ _).grown hgrow (Nat.le_refl _) (by intro k hk; cases hk)
  clear hown hgrow
  go_wp2
  go_ret
  exact ⟨rfl, hown2, hbel, hlt⟩

/-- What one store does to the row, from the end. -/
theorem big_store {w : World} {B g n k : Nat} {v : Value} (x : Nat) (T : List UInt8) (hv : v = .slice (some ⟨g, 0, none⟩) n n)
    (hown : w.ownsRow B 5 1 v n (bytesV (List.replicate (k + 1) 0 ++ T))) :
    (w.setCell ⟨g, k, none⟩ (.int .u8 (IntKind.u8.wrap (x : Int)))).ownsRow B 5 1 v n (bytesV (List.replicate k 0 ++ (UInt8.ofNat (x % 256) :: T))) := by
  subst hv
  have := (hown.stored k (.int .u8 (IntKind.u8.wrap (x : Int)))).1
  rw [u8_wrap, bytesV_set, set_last] at this
  rw [u8_wrap]
  exact this

set_option maxHeartbeats 400000 in
set_option maxRecDepth 100000 in
theorem big_any (x n : Nat) (w : World) (h0 : 1 ≤ n) (h1 : n ≤ 2147483647) :
    Calls Tryd.prog 70 #[.int .u64 x, .int .i64 n] w fun e w' => e = .returned (.string ⟨(bigL x n).toArray⟩) ∧ Below w.heap.size w w' := by
  go_enter Tryd.func70, Tryd.ntmps70
  go_wp2_with fail
  refine (noughts_some n _ h0 h1).mono ?_
  rintro e w1 ⟨rfl, hown, hbel, hlt⟩
  generalize hg : w.heap.size = B at *
  have HG := hidM hg
  clear hg
  go_wp2_with fail
  go_loopw [0, 6] (fun xv i wr => ∃ (k y : Nat) (T : List UInt8), k + T.length = n ∧ i = .int .i64 ((k : Int) - 1) ∧ xv = .int .u64 y ∧ bigL x n = bigL y k ++ T ∧ wr.ownsRow B 5 1 (.slice (some ⟨B, 0, none⟩) n n) n (bytesV (List.replicate k 0 ++ T)) ∧ Below B w wr)
    (fun _ i _ => (intOf i + 1).toNat)
  case atStart => exact ⟨n, x, [], by simp, by go_num, rfl, by simp, by simpa using hown, hbel⟩
  case round =>
    obtain ⟨k, y, T, hk, rfl, rfl, hT, hownr, hbr⟩ := hrel
    clear hown hbel
    have HT : Hid (bigL x n = bigL y k ++ T) := hT
    clear hT
    rcases k with _ | k
    · have hl : T.length = n := by omega
      have hconv : (convert 34 9 (.slice (some ⟨B, 0, none⟩) n n)).run Tryd.prog wr = .ok (.string ⟨(bigL x n).toArray⟩) wr := by
        have ho : OwnB wr B (.slice (some ⟨B, 0, none⟩) n n) T := by unfold OwnB; rw [hl]; simpa using hownr
        rw [show bigL x n = T by rw [HT.out]; rfl]
        exact conv_own ho
      clear hownr HT
      go_wp2
      go_ret
      exact ⟨rfl, by rw [HG.out]; exact hbr⟩
    · have e1 : ((k + 1 : Nat) : Int) - 1 = (k : Int) := by omega
      simp only [e1]
      clear e1
      by_cases hy : y = 0
      · subst hy
        have hconv : (convert 34 9 (.slice (some ⟨B, 0, none⟩) n n)).run Tryd.prog wr = .ok (.string ⟨(bigL x n).toArray⟩) wr := by
          have hl : (List.replicate (k + 1) (0 : UInt8) ++ T).length = n := by simp; omega
          have ho : OwnB wr B (.slice (some ⟨B, 0, none⟩) n n) (List.replicate (k + 1) 0 ++ T) := by unfold OwnB; rw [hl]; exact hownr
          rw [show bigL x n = List.replicate (k + 1) 0 ++ T by rw [HT.out, bigL_zero]]
          exact conv_own ho
        clear hownr HT
        go_wp2
        go_ret
        exact ⟨rfl, by rw [HG.out]; exact hbr⟩
      · have hkn : k < n := by omega
        have hne : ((y : Int) != 0) = true := by simp; omega
        have hcell : ∃ v0, wr.cell? ⟨B, k, none⟩ = some v0 := by
          have := hownr.cellAt k (by omega)
          rw [this]
          have hl : k < (bytesV (List.replicate (k + 1) 0 ++ T)).length := by simp [bytesV]; omega
          exact ⟨_, List.getElem?_eq_getElem hl⟩
        obtain ⟨v0, hc0⟩ := hcell
        have hfz := hownr.frozenAt k
        have hst := big_store y T rfl hownr
        have hbs : Below B w (wr.setCell ⟨B, k, none⟩ (.int .u8 (IntKind.u8.wrap (y : Int)))) := hbr.setCell (Nat.le_refl _) _
        have HST := hidM hst
        have HBS := hidM hbs
        clear hst hbs hownr hbr
        go_wp2
        go_roundw
        case rel => exact ⟨k, y / 256, _, by simp; omega, by go_num, val_int (by omega), by rw [HT.out, bigL_succ]; simp, HST.out, HBS.out⟩
        case measure => simp [intOf]

def adS (s : Nat × Nat) (c : UInt8) : Nat × Nat := ((s.1 + c.toNat) % 65521, (s.2 + (s.1 + c.toNat) % 65521) % 65521)

def adR (s : Nat × Nat) (l : List UInt8) : Nat × Nat := l.foldl adS s

def adSum (l : List UInt8) : Nat := (adR (1, 0) l).2 * 65536 + (adR (1, 0) l).1

set_option maxRecDepth 100000 in
theorem adR_snoc (s : Nat × Nat) (l : List UInt8) (c : UInt8) : adR s (l ++ [c]) = adS (adR s l) c := by simp [adR, List.foldl_append]

set_option maxRecDepth 100000 in
theorem adR_app (s : Nat × Nat) (l m : List UInt8) : adR s (l ++ m) = adR (adR s l) m := by simp [adR, List.foldl_append]

set_option maxRecDepth 100000 in
theorem adR_lt (l : List UInt8) : ∀ s : Nat × Nat, s.1 < 65521 → s.2 < 65521 → (adR s l).1 < 65521 ∧ (adR s l).2 < 65521 := by
  induction l with
  | nil => intro s h1 h2; exact ⟨h1, h2⟩
  | cons c l ih => intro s h1 h2; exact ih _ (Nat.mod_lt _ (by decide)) (Nat.mod_lt _ (by decide))

set_option maxRecDepth 100000 in
theorem adR_take (s0 : Nat × Nat) (s : ByteArray) (k : Nat) (h : k < s.size) : adR s0 (s.data.toList.take (k + 1)) = adS (adR s0 (s.data.toList.take k)) s[k] := by rw [take_snoc s k h, adR_snoc]

set_option maxHeartbeats 400000 in
set_option maxRecDepth 100000 in
theorem told_any (b a : Nat) (w : World) (ha : a < 65521) (hcell : w.cell? ⟨b, 0, none⟩ = some (.int .u32 a)) :
    Calls Tryd.prog 112 #[.pointer (some ⟨b, 0, none⟩)] w fun e w' => e = .returned (.int .u32 ((a + 1) % 65521 : Nat)) ∧ w' = w := by
  go_enter Tryd.func112, Tryd.ntmps112
  go_wp2
  go_ret
  exact ⟨ret_int (by omega), rfl⟩

set_option maxRecDepth 100000 in
theorem or16' (d t : Nat) (hd : d < 65521) (ht : t < 65521) : bits .or .u32 ((d : Int) * 65536) (t : Int) = ((d * 65536 + t : Nat) : Int) := by
  rw [show (d : Int) * 65536 = ((d * 65536 : Nat) : Int) by omega, u32_or_nat _ _ (by omega) (by omega), nat_join 16 _ _ (by omega) (by omega)]

set_option maxHeartbeats 400000 in
set_option maxRecDepth 100000 in
theorem adlerSum_any (b a d : Nat) (w : World) (ha : a < 65521) (hd : d < 65521) (h0 : w.cell? ⟨b, 0, none⟩ = some (.int .u32 a)) (h1 : w.cell? ⟨b, 1, none⟩ = some (.int .u32 d)) :
    Calls Tryd.prog 99 #[.pointer (some ⟨b, 0, none⟩)] w fun e w' => e = .returned (.int .u32 (d * 65536 + (a + 1) % 65521 : Nat)) ∧ ∃ n, w' = w.drewN n := by
  go_enter Tryd.func99, Tryd.ntmps99
  go_wp2
  go_quiet ((go_at_call 112; exact Calls.quiet_of_same (told_any b a _ ha (by simpa using h0))))
  go_wp2
  go_ret
  have e := or16' d ((a + 1) % 65521) hd (by omega)
  rw [show (((a + 1) % 65521 : Nat) : Int) = ((a : Int) + 1) % 65521 by omega] at e
  exact ⟨ret_int e, nq, rfl⟩

set_option maxRecDepth 100000 in
theorem Only.cell {b : Nat} {w w' : World} (h : Only b w w') {p : Addr} (hp : p.block ≠ b) : w'.cell? p = w.cell? p := World.cell?_of_block (h.block _ hp)

set_option maxRecDepth 100000 in
theorem Only.frozen {b : Nat} {w w' : World} (h : Only b w w') {p : Addr} (hp : p.block ≠ b) : w'.frozen? p = w.frozen? p := World.frozen?_of_block (h.block _ hp)

/-- A box of Adler's: a is one less than it is told. -/
structure AdBox (w : World) (b : Nat) (s : Nat × Nat) : Prop where
  lt1 : s.1 < 65521
  lt2 : s.2 < 65521
  c0 : w.cell? ⟨b, 0, none⟩ = some (.int .u32 ((s.1 + 65520) % 65521 : Nat))
  c1 : w.cell? ⟨b, 1, none⟩ = some (.int .u32 (s.2 : Nat))
  f0 : w.frozen? ⟨b, 0, none⟩ = false
  f1 : w.frozen? ⟨b, 1, none⟩ = false

set_option maxRecDepth 100000 in
theorem AdBox.only {w w' : World} {b c : Nat} {s : Nat × Nat} (h : AdBox w b s) (ho : Only c w w') (hne : b ≠ c) : AdBox w' b s :=
  ⟨h.lt1, h.lt2, (ho.cell (p := ⟨b, 0, none⟩) hne).trans h.c0, (ho.cell (p := ⟨b, 1, none⟩) hne).trans h.c1, (ho.frozen (p := ⟨b, 0, none⟩) hne).trans h.f0, (ho.frozen (p := ⟨b, 1, none⟩) hne).trans h.f1⟩

set_option maxRecDepth 100000 in
theorem AdBox.below {w w' : World} {b B : Nat} {s : Nat × Nat} (h : AdBox w b s) (ho : Below B w w') (hlt : b < B) : AdBox w' b s :=
  ⟨h.lt1, h.lt2, (ho.cell (p := ⟨b, 0, none⟩) hlt).trans h.c0, (ho.cell (p := ⟨b, 1, none⟩) hlt).trans h.c1, (ho.frozen (p := ⟨b, 0, none⟩) hlt).trans h.f0, (ho.frozen (p := ⟨b, 1, none⟩) hlt).trans h.f1⟩

set_option maxRecDepth 100000 in
theorem adBox_stored {w : World} {b n x y : Nat} {u v : Value} (s : Nat × Nat) (h1 : s.1 < 65521) (h2 : s.2 < 65521) (hx : x = (s.1 + 65520) % 65521) (hy : y = s.2)
    (c0 : w.cell? ⟨b, 0, none⟩ = some u) (c1 : w.cell? ⟨b, 1, none⟩ = some v) (f0 : w.frozen? ⟨b, 0, none⟩ = false) (f1 : w.frozen? ⟨b, 1, none⟩ = false) :
    AdBox (((w.drewN n).setCell ⟨b, 0, none⟩ (.int .u32 (x : Int))).setCell ⟨b, 1, none⟩ (.int .u32 (y : Int))) b s := by
  have g0 : (w.drewN n).cell? ⟨b, 0, none⟩ = some u := c0
  have g1 : (w.drewN n).cell? ⟨b, 1, none⟩ = some v := c1
  have k0 : (((w.drewN n).setCell ⟨b, 0, none⟩ (.int .u32 (x : Int))).setCell ⟨b, 1, none⟩ (.int .u32 (y : Int))).cell? ⟨b, 0, none⟩ = some (.int .u32 (x : Int)) := by
    rw [World.cell?_setCell_other _ _ _ _ (by simp), World.cell?_setCell_same _ _ _ g0]
  have k1 : (((w.drewN n).setCell ⟨b, 0, none⟩ (.int .u32 (x : Int))).setCell ⟨b, 1, none⟩ (.int .u32 (y : Int))).cell? ⟨b, 1, none⟩ = some (.int .u32 (y : Int)) := by
    rw [World.cell?_setCell_same (u := v)]
    rw [World.cell?_setCell_other _ _ _ _ (by simp)]
    exact g1
  have l0 : (((w.drewN n).setCell ⟨b, 0, none⟩ (.int .u32 (x : Int))).setCell ⟨b, 1, none⟩ (.int .u32 (y : Int))).frozen? ⟨b, 0, none⟩ = false := by
    rw [World.frozen?_setCell, World.frozen?_setCell]; exact f0
  have l1 : (((w.drewN n).setCell ⟨b, 0, none⟩ (.int .u32 (x : Int))).setCell ⟨b, 1, none⟩ (.int .u32 (y : Int))).frozen? ⟨b, 1, none⟩ = false := by
    rw [World.frozen?_setCell, World.frozen?_setCell]; exact f1
  generalize ((w.drewN n).setCell ⟨b, 0, none⟩ (.int .u32 (x : Int))).setCell ⟨b, 1, none⟩ (.int .u32 (y : Int)) = W at *
  rw [hx] at k0
  rw [hy] at k1
  exact ⟨h1, h2, k0, k1, l0, l1⟩

set_option maxHeartbeats 800000 in
set_option maxRecDepth 100000 in
theorem adlerWrite_core (b a d : Nat) (s : ByteArray) (w : World) (hs : s.size ≤ maxLen) (ha : a < 65521) (hd : d < 65521)
    (h0 : w.cell? ⟨b, 0, none⟩ = some (.int .u32 a)) (h1 : w.cell? ⟨b, 1, none⟩ = some (.int .u32 d)) (hf0 : w.frozen? ⟨b, 0, none⟩ = false) (hf1 : w.frozen? ⟨b, 1, none⟩ = false) :
    Calls Tryd.prog 98 #[.pointer (some ⟨b, 0, none⟩), .string s] w fun e w' => e = .returned (.tuple #[]) ∧
      ∃ n, w' = ((w.drewN n).setCell ⟨b, 0, none⟩ (.int .u32 (((adR ((a + 1) % 65521, d) s.data.toList).1 + 65520) % 65521 : Nat))).setCell ⟨b, 1, none⟩ (.int .u32 ((adR ((a + 1) % 65521, d) s.data.toList).2 : Nat)) := by
  unfold maxLen at hs
  go_enter Tryd.func98, Tryd.ntmps98
  go_wp2
  go_quiet ((go_at_call 112; exact Calls.quiet_of_same (told_any b a _ ha (by simpa using h0))))
  go_wp2
  go_loop [4, 5, 6] (fun x y i => ∃ (k p q : Nat), k ≤ s.size ∧ i = .int .i64 k ∧ x = .int .u32 p ∧ y = .int .u32 q ∧ p < 65521 ∧ q < 65521 ∧ (p, q) = adR ((a + 1) % 65521, d) (s.data.toList.take k)) (fun _ _ i => s.size - (intOf i).toNat)
  case atStart => exact ⟨0, _, _, Nat.zero_le _, rfl, rfl, rfl, by omega, by omega, rfl⟩
  case round =>
    obtain ⟨k, p, q, hk, rfl, rfl, rfl, hp, hq, hr⟩ := hrel
    have HR := hidM hr
    clear hr
    by_cases hlt : k < s.size
    · have hb := byte_lt s[k]
      have HD : Hid (((p + s[k].toNat) % 65521, (q + (p + s[k].toNat) % 65521) % 65521) = adR ((a + 1) % 65521, d) (s.data.toList.take (k + 1))) := by
        unfold Hid; rw [adR_take _ s k hlt, ← HR.out]; rfl
      go_wp2
      go_round
      case rel => exact ⟨k + 1, _, _, by omega, by go_num, val_int (by omega), val_int (by omega), by omega, by omega, HD.out⟩
      case measure => simp [intOf]; omega
    · have HE : Hid (adR ((a + 1) % 65521, d) s.data.toList = (p, q)) := by
        unfold Hid; rw [HR.out, List.take_of_length_le (by simp; omega)]
      go_wp2
      go_end0
      exact ⟨rfl, nq, by rw [HE.out]; simp only [show (p : Int) + 65521 - 1 = (p : Int) + 65520 by omega]⟩

set_option maxRecDepth 100000 in
theorem adlerWrite_any (b : Nat) (s0 : Nat × Nat) (s : ByteArray) (w : World) (hs : s.size ≤ maxLen) (h : AdBox w b s0) :
    Calls Tryd.prog 98 #[.pointer (some ⟨b, 0, none⟩), .string s] w fun e w' => e = .returned (.tuple #[]) ∧ Only b w w' ∧ AdBox w' b (adR s0 s.data.toList) := by
  have hl := adR_lt s.data.toList s0 h.lt1 h.lt2
  have e1 : ((s0.1 + 65520) % 65521 + 1) % 65521 = s0.1 := by have := h.lt1; omega
  refine (adlerWrite_core b _ _ s w hs (Nat.mod_lt _ (by decide)) h.lt2 h.c0 h.c1 h.f0 h.f1).mono ?_
  rintro e w' ⟨rfl, n, rfl⟩
  rw [e1]
  refine ⟨rfl, (((Only.refl b w).drewN n).setCell 0 _).setCell 1 _, adBox_stored _ hl.1 hl.2 rfl rfl h.c0 h.c1 h.f0 h.f1⟩

set_option maxRecDepth 100000 in
theorem adlerSum_box (b : Nat) (s0 : Nat × Nat) (w : World) (h : AdBox w b s0) :
    Calls Tryd.prog 99 #[.pointer (some ⟨b, 0, none⟩)] w fun e w' => e = .returned (.int .u32 (s0.2 * 65536 + s0.1 : Nat)) ∧ ∃ n, w' = w.drewN n := by
  have e1 : ((s0.1 + 65520) % 65521 + 1) % 65521 = s0.1 := by have := h.lt1; omega
  have := adlerSum_any b _ _ w (Nat.mod_lt _ (by decide)) h.lt2 h.c0 h.c1
  rw [e1] at this
  exact this

set_option maxRecDepth 100000 in
theorem adBox_new (w : World) : AdBox (w.alloc (.cells #[.int .u32 0, .int .u32 0] 134)) w.heap.size (1, 0) :=
  ⟨by decide, by decide, by simp, by simp, by simp, by simp⟩

set_option maxHeartbeats 400000 in
set_option maxRecDepth 100000 in
theorem adler32_any (s : ByteArray) (w : World) (hs : s.size ≤ maxLen) :
    Calls Tryd.prog 71 #[.string s] w fun e w' => e = .returned (.int .u32 (adSum s.data.toList : Nat)) ∧ Below w.heap.size w w' := by
  have hbox := hidM (adBox_new w)
  go_enter Tryd.func71, Tryd.ntmps71
  go_wp2_with fail
  refine (adlerWrite_any _ (1, 0) s _ hs hbox.out).mono ?_
  rintro e w1 ⟨rfl, ho, hb⟩
  have HB := hidM hb
  have HL : Hid (Below w.heap.size w w1) := ((Below.refl _ _).alloc (Nat.le_refl _) _).trans (ho.below (Nat.le_refl _))
  have HE : Hid (adSum s.data.toList = (adR (1, 0) s.data.toList).2 * 65536 + (adR (1, 0) s.data.toList).1) := rfl
  clear hb ho hbox
  generalize adR (1, 0) s.data.toList = r at *
  go_wp2_with fail
  refine (adlerSum_box _ r _ HB.out).mono ?_
  rintro e w2 ⟨rfl, n, rfl⟩
  go_wp2
  go_ret
  exact ⟨ret_int (by rw [HE.out]; omega), below_drewN HL.out n⟩

end Go.Proofs.YtkckobhpanghiaaDoor
