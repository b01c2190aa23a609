/-
  Walks of sums, in this seat: Hex, Unhex, Id, Base64, Crc, Adler, Big, FromBig.
-/
import Derived.Test.YtbodjopdhciaeabDoorShaP
import Derived.WalkSpells
import Derived.WalkLawsBesides
import Derived.Laws.IdiomStrings
import Derived.Laws.BitsAllLaws
import Derived.Deep.QuietTactic
import Derived.BigQuiet
import Derived.OwnWalk
import Derived.Deep.RegionLaw
namespace Go.Proofs.YtbodjopdhciaeabDoor
open Go.RowKit

def M64 : Nat := 18446744073709551616

def numB (l : List UInt8) : Nat := l.foldl (fun x c => (x * 256 + c.toNat) % M64) 0

theorem numB_snoc (l : List UInt8) (c : UInt8) : numB (l ++ [c]) = (numB l * 256 + c.toNat) % M64 := by
  simp [numB, List.foldl_append]

theorem numB_take (s : ByteArray) (k : Nat) (h : k < s.size) : numB (s.data.toList.take (k + 1)) = (numB (s.data.toList.take k) * 256 + s[k].toNat) % M64 := by
  rw [take_snoc s k h, numB_snoc]

theorem u64_wrap (n : Int) : IntKind.u64.wrap n = n % 18446744073709551616 := by
  simp [IntKind.wrap, IntKind.bits, IntKind.signed]

theorem or_step (y : Nat) (c : UInt8) : bits .or .u64 (IntKind.u64.wrap ((y : Int) * 256)) (IntKind.u64.wrap (c.toNat : Int)) = (((y * 256 + c.toNat) % M64 : Nat) : Int) := by
  have hc := byte_lt c
  rw [u64_wrap, u64_wrap]
  have e1 : ((y : Int) * 256) % 18446744073709551616 = ((y * 256 % 18446744073709551616 : Nat) : Int) := by omega
  have e2 : (c.toNat : Int) % 18446744073709551616 = (c.toNat : Int) := by omega
  rw [e1, e2, u64_or_nat _ _ (by omega) (by omega), nat_join 8 _ _ (by omega) (by omega)]
  unfold M64
  omega

/-- The bytes of x in n places, the lowest first. -/
def littleL (x : Nat) : Nat → List UInt8
  | 0 => []
  | n + 1 => UInt8.ofNat (x % 256) :: littleL (x / 256) n

def bigL (x n : Nat) : List UInt8 := (littleL x n).reverse

theorem littleL_len (n : Nat) : ∀ x, (littleL x n).length = n := by
  induction n with
  | zero => intro x; rfl
  | succ n ih => intro x; simp [littleL, ih]

theorem bigL_len (x n : Nat) : (bigL x n).length = n := by simp [bigL, littleL_len]

theorem littleL_zero (n : Nat) : littleL 0 n = List.replicate n 0 := by
  induction n with
  | zero => rfl
  | succ n ih => simp [littleL, ih, List.replicate_succ]

theorem bigL_zero (n : Nat) : bigL 0 n = List.replicate n 0 := by simp [bigL, littleL_zero]

theorem bigL_succ (x n : Nat) : bigL x (n + 1) = bigL (x / 256) n ++ [UInt8.ofNat (x % 256)] := by simp [bigL, littleL]

theorem byte_of (x : Nat) : (UInt8.ofNat (x % 256)).toNat = x % 256 := by simp

/-- A number below 256^n, written in n bytes, is read back. -/
theorem numB_bigL (n : Nat) : ∀ x, x < 256 ^ n → x < M64 → numB (bigL x n) = x := by
  induction n with
  | zero => intro x h _; simp at h; subst h; rfl
  | succ n ih =>
    intro x h hM
    rw [bigL_succ, numB_snoc, ih (x / 256) (by rw [Nat.pow_succ] at h; omega) (by unfold M64 at *; omega), byte_of]
    unfold M64 at *
    omega

theorem set_last {α : Type} (k : Nat) (z c : α) (T : List α) : (List.replicate (k + 1) z ++ T).set k c = List.replicate k z ++ (c :: T) := by
  rw [List.replicate_succ']
  simp

theorem Tryd.info5 : (Tryd.prog.info? 5).map (fun i => (i.zero, i.size, i.bytes)) = some (some (.int .u8 0), 1, 1) := by kernel_rfl

set_option maxHeartbeats 400000 in
theorem fromBig_any (s : ByteArray) (w : World) (hs : s.size ≤ maxLen) :
    Calls Tryd.prog 28 #[.string s] w fun e w' => e = .returned (.int .u64 (numB s.data.toList)) ∧ w' = w := by
  unfold maxLen at hs
  go_enter Tryd.func28, Tryd.ntmps28
  go_wp2
  go_loop [3, 4] (fun x i => ∃ k : Nat, k ≤ s.size ∧ i = .int .i64 k ∧ x = .int .u64 (numB (s.data.toList.take k))) (fun _ i => s.size - (intOf i).toNat)
  case atStart => exact ⟨0, Nat.zero_le _, rfl, rfl⟩
  case round =>
    obtain ⟨k, hk, rfl, rfl⟩ := hrel
    by_cases hlt : k < s.size
    · have HS : Hid (numB (s.data.toList.take (k + 1)) = (numB (s.data.toList.take k) * 256 + s[k].toNat) % M64) := numB_take s k hlt
      generalize numB (s.data.toList.take k) = y at *
      go_wp2
      go_round
      case rel => exact ⟨k + 1, by omega, by go_num, by rw [HS.out]; exact val_int (or_step y s[k])⟩
      case measure => simp [intOf]; omega
    · have HE : Hid (s.data.toList.take k = s.data.toList) := List.take_of_length_le (by simp; omega)
      generalize s.data.toList.take k = l at *
      go_wp2
      go_ret
      exact ⟨ret_int (by rw [HE.out]), rfl⟩

theorem bytesV_app (l m : List UInt8) : bytesV (l ++ m) = bytesV l ++ bytesV m := by simp [bytesV]

theorem bytesV_rep (n : Nat) : bytesV (List.replicate n 0) = List.replicate n (.int .u8 0) := by simp [bytesV]

theorem bytesV_set (l : List UInt8) (j : Nat) (c : UInt8) : (bytesV l).set j (.int .u8 (c.toNat : Int)) = bytesV (l.set j c) := by simp [bytesV, List.map_set]

/-- The value v owns just the bytes l, in memory from 'base' on. -/
def OwnB (w : World) (base : Nat) (v : Value) (l : List UInt8) : Prop := w.ownsRow base 5 1 v l.length (bytesV l)

theorem conv_own {w : World} {base : Nat} {v : Value} {l : List UInt8} (h : OwnB w base v l) :
    (convert 57 9 v).run Tryd.prog w = .ok (.string ⟨l.toArray⟩) w := by
  rcases h.2 with ⟨rfl, hn⟩ | ⟨g, cap, cur, rfl, hb, hg, hnc, hcm, hcs, htake⟩
  · have : l = [] := List.eq_nil_of_length_eq_zero hn
    subst this
    rw [run_convert_bytes_string w 57 9 5 none 0 0 Tryd.underlying57 Tryd.underlying5 Tryd.underlying9]
    rfl
  · refine run_convert_bytes_back w 57 9 5 _ cap l Tryd.underlying57 Tryd.underlying5 Tryd.underlying9 ?_
    intro j hj
    have := World.ownsRow.cells (g := g) h rfl j _ (bytesV_at l j hj)
    exact this

theorem u8_wrap (x : Nat) : IntKind.u8.wrap (x : Int) = ((UInt8.ofNat (x % 256)).toNat : Int) := by
  rw [byte_of, IntKind.wrap_u8']; omega

set_option maxHeartbeats 400000 in
theorem noughts_some (n : Nat) (w : World) (h0 : 1 ≤ n) (h1 : n ≤ 2147483647) :
    Calls Tryd.prog 48 #[.int .i64 n] w fun e w' => e = .returned (.slice (some ⟨w.heap.size, 0, none⟩) n n) ∧ w'.ownsRow w.heap.size 5 1 (.slice (some ⟨w.heap.size, 0, none⟩) n n) n (bytesV (List.replicate n 0)) ∧ Below w.heap.size w w' ∧ w.heap.size < w'.heap.size := by
  obtain ⟨i0, hi, hz0, hz1, hz2⟩ := info_parts Tryd.info5
  go_enter Tryd.func48, Tryd.ntmps48
  go_wp2_with (at_make; refine wpList_make_full _ rfl _ _ 57 rfl w.heap.size 5 i0 (.int .u8 0) 1 Tryd.underlying57 hi hz0 hz1 .i64 .i64 _ _ n rfl rfl rfl rfl ?c1 ?c2 ?c3 ?_)
  case c1 => rw [hz2]; omega
  case c2 => unfold maxLen; omega
  case c3 => exact Nat.le_refl _
  intro w1 hown hgrow
  have hlt := (hown.lt w.heap.size rfl).2
  have hown2 : w1.ownsRow w.heap.size 5 1 (.slice (some ⟨w.heap.size, 0, none⟩) n n) n (bytesV (List.replicate n 0)) := by
    rw [bytesV_rep, ← toList_madeCells_one]
    simpa using hown
  have hbel : Below w.heap.size w w1 := (Below.refl _ _).grown hgrow (Nat.le_refl _) (by intro k hk; cases hk)
  clear hown hgrow
  go_wp2
  go_ret
  exact ⟨rfl, hown2, hbel, hlt⟩

/-- What one store does to the row, from the end. -/
theorem big_store {w : World} {B g n k : Nat} {v : Value} (x : Nat) (T : List UInt8) (hv : v = .slice (some ⟨g, 0, none⟩) n n)
    (hown : w.ownsRow B 5 1 v n (bytesV (List.replicate (k + 1) 0 ++ T))) :
    (w.setCell ⟨g, k, none⟩ (.int .u8 (IntKind.u8.wrap (x : Int)))).ownsRow B 5 1 v n (bytesV (List.replicate k 0 ++ (UInt8.ofNat (x % 256) :: T))) := by
  subst hv
  have := (hown.stored k (.int .u8 (IntKind.u8.wrap (x : Int)))).1
  rw [u8_wrap, bytesV_set, set_last] at this
  rw [u8_wrap]
  exact this

set_option maxHeartbeats 400000 in
theorem big_any (x n : Nat) (w : World) (h0 : 1 ≤ n) (h1 : n ≤ 2147483647) :
    Calls Tryd.prog 29 #[.int .u64 x, .int .i64 n] w fun e w' => e = .returned (.string ⟨(bigL x n).toArray⟩) ∧ Below w.heap.size w w' := by
  go_enter Tryd.func29, Tryd.ntmps29
  go_wp2_with fail
  refine (noughts_some n _ h0 h1).mono ?_
  rintro e w1 ⟨rfl, hown, hbel, hlt⟩
  generalize hg : w.heap.size = B at *
  have HG := hidM hg
  clear hg
  go_wp2_with fail
  go_loopw [0, 6] (fun xv i wr => ∃ (k y : Nat) (T : List UInt8), k + T.length = n ∧ i = .int .i64 ((k : Int) - 1) ∧ xv = .int .u64 y ∧ bigL x n = bigL y k ++ T ∧ wr.ownsRow B 5 1 (.slice (some ⟨B, 0, none⟩) n n) n (bytesV (List.replicate k 0 ++ T)) ∧ Below B w wr)
    (fun _ i _ => (intOf i + 1).toNat)
  case atStart => exact ⟨n, x, [], by simp, by go_num, rfl, by simp, by simpa using hown, hbel⟩
  case round =>
    obtain ⟨k, y, T, hk, rfl, rfl, hT, hownr, hbr⟩ := hrel
    clear hown hbel
    have HT : Hid (bigL x n = bigL y k ++ T) := hT
    clear hT
    rcases k with _ | k
    · have hl : T.length = n := by omega
      have hconv : (convert 57 9 (.slice (some ⟨B, 0, none⟩) n n)).run Tryd.prog wr = .ok (.string ⟨(bigL x n).toArray⟩) wr := by
        have ho : OwnB wr B (.slice (some ⟨B, 0, none⟩) n n) T := by unfold OwnB; rw [hl]; simpa using hownr
        rw [show bigL x n = T by rw [HT.out]; rfl]
        exact conv_own ho
      clear hownr HT
      go_wp2
      go_ret
      exact ⟨rfl, by rw [HG.out]; exact hbr⟩
    · have e1 : ((k + 1 : Nat) : Int) - 1 = (k : Int) := by omega
      simp only [e1]
      clear e1
      by_cases hy : y = 0
      · subst hy
        have hconv : (convert 57 9 (.slice (some ⟨B, 0, none⟩) n n)).run Tryd.prog wr = .ok (.string ⟨(bigL x n).toArray⟩) wr := by
          have hl : (List.replicate (k + 1) (0 : UInt8) ++ T).length = n := by simp; omega
          have ho : OwnB wr B (.slice (some ⟨B, 0, none⟩) n n) (List.replicate (k + 1) 0 ++ T) := by unfold OwnB; rw [hl]; exact hownr
          rw [show bigL x n = List.replicate (k + 1) 0 ++ T by rw [HT.out, bigL_zero]]
          exact conv_own ho
        clear hownr HT
        go_wp2
        go_ret
        exact ⟨rfl, by rw [HG.out]; exact hbr⟩
      · have hkn : k < n := by omega
        have hne : ((y : Int) != 0) = true := by simp; omega
        have hcell : ∃ v0, wr.cell? ⟨B, k, none⟩ = some v0 := by
          have := hownr.cellAt k (by omega)
          rw [this]
          have hl : k < (bytesV (List.replicate (k + 1) 0 ++ T)).length := by simp [bytesV]; omega
          exact ⟨_, List.getElem?_eq_getElem hl⟩
        obtain ⟨v0, hc0⟩ := hcell
        have hfz := hownr.frozenAt k
        have hst := big_store y T rfl hownr
        have hbs : Below B w (wr.setCell ⟨B, k, none⟩ (.int .u8 (IntKind.u8.wrap (y : Int)))) := hbr.setCell (Nat.le_refl _) _
        have HST := hidM hst
        have HBS := hidM hbs
        clear hst hbs hownr hbr
        go_wp2
        go_roundw
        case rel => exact ⟨k, y / 256, _, by simp; omega, by go_num, val_int (by omega), by rw [HT.out, bigL_succ]; simp, HST.out, HBS.out⟩
        case measure => simp [intOf]

theorem cell_new_one (w : World) (v : Value) : ∀ j u, [v][j]? = some u → (w.alloc (.cells #[v] 5)).cell? ((⟨w.heap.size, 0, none⟩ : Addr).add j) = some u := by
  intro j u hj
  match j, hj with
  | 0, hj => simp at hj; subst hj; simp [Addr.add]

/-- What one append of a byte leaves. -/
theorem own_push {w1 : World} {B : Nat} {v' : Value} {P : List UInt8} {c : UInt8} (h : w1.ownsRow B 5 1 v' (P.length + 1) (bytesV P ++ [.int .u8 (c.toNat : Int)])) : OwnB w1 B v' (P ++ [c]) := by
  unfold OwnB
  rw [bytesV_app]
  simpa [bytesV] using h

theorem below_push {w wr w1 : World} {B : Nat} {v : Value} {P : List UInt8} {o : Obj} (hown : OwnB wr B v P) (hb : Below B w wr) (hB : B ≤ wr.heap.size) (hg : (wr.alloc o).grownBy w1 v.ownBlock) : Below B w w1 :=
  (hb.alloc hB o).grown hg (by simp; omega) (fun k hk => (World.ownsRow.lt hown k hk).1)

def tabL : List Nat := [0, 498536548, 997073096, 651767980, 1994146192, 1802195444, 1303535960, 1342533948, 3988292384, 4027552580, 3604390888, 3412177804, 2607071920, 2262029012, 2685067896, 3183342108]

def tabN (i : Nat) : Nat := tabL.getD i 0

def nib (c : Nat) : Nat := (c / 16) ^^^ tabN (c % 16)

def crcStep (c : Nat) (b : UInt8) : Nat := nib (nib (c ^^^ b.toNat))

def crcRaw (c : Nat) (l : List UInt8) : Nat := l.foldl crcStep c

def flip32 (c : Nat) : Nat := ones32 ^^^ c

theorem tabN_lt (i : Nat) : tabN i < 4294967296 := by
  by_cases h : i < 16
  · have : ∀ j, j < 16 → tabN j < 4294967296 := by decide
    exact this i h
  · unfold tabN; rw [List.getD_eq_getElem?_getD, List.getElem?_eq_none (by simp [tabL]; omega)]; exact (by decide : (0 : Nat) < 4294967296)

theorem nib_lt (c : Nat) (h : c < 4294967296) : nib c < 4294967296 := xor_lt (by omega) (tabN_lt _)

theorem crcStep_lt (c : Nat) (b : UInt8) (h : c < 4294967296) : crcStep c b < 4294967296 := by
  unfold crcStep
  exact nib_lt _ (nib_lt _ (xor_lt h (by have := byte_lt b; omega)))

theorem flip32_lt (c : Nat) (h : c < 4294967296) : flip32 c < 4294967296 := xor_lt (by unfold ones32; omega) h

theorem xor_twice (o c : Nat) : o ^^^ (o ^^^ c) = c := by rw [← Nat.xor_assoc, Nat.xor_self, Nat.zero_xor]

theorem flip32_eq (c : Nat) : flip32 c = ones32 ^^^ c := rfl

theorem flip32_flip (c : Nat) : flip32 (flip32 c) = c := by rw [flip32_eq, flip32_eq, xor_twice]

theorem crcRaw_lt (l : List UInt8) : ∀ c, c < 4294967296 → crcRaw c l < 4294967296 := by
  induction l with
  | nil => intro c h; exact h
  | cons b l ih => intro c h; exact ih _ (crcStep_lt c b h)

theorem crcRaw_snoc (c : Nat) (l : List UInt8) (b : UInt8) : crcRaw c (l ++ [b]) = crcStep (crcRaw c l) b := by simp [crcRaw, List.foldl_append]

theorem crcRaw_app (c : Nat) (l m : List UInt8) : crcRaw c (l ++ m) = crcRaw (crcRaw c l) m := by simp [crcRaw, List.foldl_append]

/-- What is kept behind a text was written. -/
def crcW (c : Nat) (l : List UInt8) : Nat := flip32 (crcRaw (flip32 c) l)

theorem crcW_app (c : Nat) (l m : List UInt8) : crcW (crcW c l) m = crcW c (l ++ m) := by unfold crcW; rw [flip32_flip, crcRaw_app]

theorem crcW_lt (c : Nat) (l : List UInt8) (h : c < 4294967296) : crcW c l < 4294967296 := flip32_lt _ (crcRaw_lt _ _ (flip32_lt _ h))

theorem crcW_take (c : Nat) (s : ByteArray) (k : Nat) (h : k < s.size) : crcRaw c (s.data.toList.take (k + 1)) = crcStep (crcRaw c (s.data.toList.take k)) s[k] := by rw [take_snoc s k h, crcRaw_snoc]

def adS (s : Nat × Nat) (c : UInt8) : Nat × Nat := ((s.1 + c.toNat) % 65521, (s.2 + (s.1 + c.toNat) % 65521) % 65521)

def adR (s : Nat × Nat) (l : List UInt8) : Nat × Nat := l.foldl adS s

def adSum (l : List UInt8) : Nat := (adR (1, 0) l).2 * 65536 + (adR (1, 0) l).1

theorem adR_snoc (s : Nat × Nat) (l : List UInt8) (c : UInt8) : adR s (l ++ [c]) = adS (adR s l) c := by simp [adR, List.foldl_append]

theorem adR_app (s : Nat × Nat) (l m : List UInt8) : adR s (l ++ m) = adR (adR s l) m := by simp [adR, List.foldl_append]

theorem adR_lt (l : List UInt8) : ∀ s : Nat × Nat, s.1 < 65521 → s.2 < 65521 → (adR s l).1 < 65521 ∧ (adR s l).2 < 65521 := by
  induction l with
  | nil => intro s h1 h2; exact ⟨h1, h2⟩
  | cons c l ih => intro s h1 h2; exact ih _ (Nat.mod_lt _ (by decide)) (Nat.mod_lt _ (by decide))

theorem adR_take (s0 : Nat × Nat) (s : ByteArray) (k : Nat) (h : k < s.size) : adR s0 (s.data.toList.take (k + 1)) = adS (adR s0 (s.data.toList.take k)) s[k] := by rw [take_snoc s k h, adR_snoc]

/-- The table of sixteen lies in the first block. -/
def Tab (w : World) : Prop := 0 < w.heap.size ∧ ∀ i, i < 16 → w.cell? ⟨0, i, none⟩ = some (.int .u32 (tabN i : Nat))

theorem Tab.below {w w' : World} (h : Tab w) (hb : Below w.heap.size w w') : Tab w' :=
  ⟨Nat.lt_of_lt_of_le h.1 hb.size, fun i hi => (hb.cell (p := ⟨0, i, none⟩) h.1).trans (h.2 i hi)⟩

theorem Tab.set {w : World} (h : Tab w) {b o : Nat} (hb : 0 < b) (v : Value) : Tab (w.setCell ⟨b, o, none⟩ v) :=
  ⟨by simpa using h.1, fun i hi => by
    have := Below.heap_setCell w ⟨b, o, none⟩ v 0 (by show 0 ≠ b; omega)
    exact (World.cell?_of_block (a := ⟨0, i, none⟩) this).trans (h.2 i hi)⟩

theorem Tab.alloc {w : World} (h : Tab w) (o : Obj) : Tab (w.alloc o) := h.below ((Below.refl _ _).alloc (Nat.le_refl _) _)

theorem xor32 (a b : Nat) (ha : a < 4294967296) (hb : b < 4294967296) : bits .xor .u32 (a : Int) (b : Int) = ((a ^^^ b : Nat) : Int) := u32_xor_nat a b ha hb

theorem and15 (a : Nat) (ha : a < 4294967296) : bits .and .u32 (a : Int) 15 = ((a % 16 : Nat) : Int) := by
  have := u32_and_nat a 15 ha (by omega)
  rw [nat_mask4] at this
  exact this

set_option maxHeartbeats 800000 in
theorem crcWrite_any (b c : Nat) (s : ByteArray) (w : World) (hs : s.size ≤ maxLen) (hc : c < 4294967296) (ht : Tab w)
    (hcell : w.cell? ⟨b, 0, none⟩ = some (.int .u32 c)) (hfz : w.frozen? ⟨b, 0, none⟩ = false) :
    Calls Tryd.prog 20 #[.pointer (some ⟨b, 0, none⟩), .string s] w fun e w' => e = .returned (.tuple #[]) ∧ w' = w.setCell ⟨b, 0, none⟩ (.int .u32 (crcW c s.data.toList : Nat)) := by
  unfold maxLen at hs
  have hfl : bits .xor .u32 IntKind.u32.max (c : Int) = ((flip32 c : Nat) : Int) := by rw [umax32, flip32_eq]; exact xor32 _ _ ones32_lt hc
  obtain ⟨c', hc'⟩ : ∃ d, d = flip32 c := ⟨_, rfl⟩
  rw [← hc'] at hfl
  have hcl : c' < 4294967296 := by rw [hc']; exact flip32_lt c hc
  have HC := hidM hc'
  have HT := hidM ht
  clear hc' ht
  go_enter Tryd.func20, Tryd.ntmps20
  go_wp2
  go_loop [4, 5] (fun x i => ∃ (k y : Nat), k ≤ s.size ∧ i = .int .i64 k ∧ x = .int .u32 y ∧ y < 4294967296 ∧ y = crcRaw c' (s.data.toList.take k)) (fun _ i => s.size - (intOf i).toNat)
  case atStart => exact ⟨0, c', Nat.zero_le _, rfl, rfl, hcl, rfl⟩
  case round =>
    obtain ⟨k, y, hk, rfl, rfl, hy, hyy⟩ := hrel
    have HY := hidM hyy
    clear hyy hfl
    by_cases hlt : k < s.size
    · have hb := byte_lt s[k]
      obtain ⟨d0, hd0⟩ : ∃ d, d = y ^^^ s[k].toNat := ⟨_, rfl⟩
      have hx0 : bits .xor .u32 (y : Int) (s[k].toNat : Int) = (d0 : Int) := by rw [hd0]; exact xor32 _ _ hy (by omega)
      have hl0 : d0 < 4294967296 := by rw [hd0]; exact xor_lt hy (by omega)
      obtain ⟨m0, hm0⟩ : ∃ m, m = d0 % 16 := ⟨_, rfl⟩
      have ha0 : bits .and .u32 (d0 : Int) 15 = (m0 : Int) := by rw [hm0]; exact and15 d0 hl0
      have hml0 : m0 < 16 := by omega
      have hc0 := HT.out.2 m0 hml0
      have htl0 := tabN_lt m0
      obtain ⟨d1, hd1⟩ : ∃ d, d = nib d0 := ⟨_, rfl⟩
      have hx1 : bits .xor .u32 ((d0 : Int) / 16) ((tabN m0 : Nat) : Int) = (d1 : Int) := by
        rw [hd1, show (d0 : Int) / 16 = ((d0 / 16 : Nat) : Int) by omega, hm0]; exact xor32 _ _ (by omega) (tabN_lt _)
      have hl1 : d1 < 4294967296 := by rw [hd1]; exact nib_lt d0 hl0
      obtain ⟨m1, hm1⟩ : ∃ m, m = d1 % 16 := ⟨_, rfl⟩
      have ha1 : bits .and .u32 (d1 : Int) 15 = (m1 : Int) := by rw [hm1]; exact and15 d1 hl1
      have hml1 : m1 < 16 := by omega
      have hc1 := HT.out.2 m1 hml1
      obtain ⟨d2, hd2⟩ : ∃ d, d = nib d1 := ⟨_, rfl⟩
      have hx2 : bits .xor .u32 ((d1 : Int) / 16) ((tabN m1 : Nat) : Int) = (d2 : Int) := by
        rw [hd2, show (d1 : Int) / 16 = ((d1 / 16 : Nat) : Int) by omega, hm1]; exact xor32 _ _ (by omega) (tabN_lt _)
      have hl2 : d2 < 4294967296 := by rw [hd2]; exact nib_lt d1 hl1
      have HD : Hid (d2 = crcRaw c' (s.data.toList.take (k + 1))) := by
        unfold Hid; rw [crcW_take c' s k hlt, ← HY.out, hd2, hd1, hd0]; rfl
      clear hd0 hm0 hd1 hm1 hd2
      generalize tabN m0 = t0 at *
      generalize tabN m1 = t1 at *
      go_wp2
      go_round
      case rel => exact ⟨k + 1, d2, by omega, by go_num, rfl, hl2, HD.out⟩
      case measure => simp [intOf]; omega
    · have HE : Hid (crcW c s.data.toList = flip32 y) := by
        unfold Hid crcW; rw [HY.out, ← HC.out, List.take_of_length_le (by simp; omega)]
      have hfl : bits .xor .u32 IntKind.u32.max (y : Int) = ((flip32 y : Nat) : Int) := by rw [umax32, flip32_eq]; exact xor32 _ _ ones32_lt hy
      generalize flip32 y = f at *
      go_wp2
      go_end0
      exact ⟨rfl, by rw [HE.out]⟩

set_option maxHeartbeats 400000 in
theorem crcSum_any (b c : Nat) (w : World) (hcell : w.cell? ⟨b, 0, none⟩ = some (.int .u32 c)) :
    Calls Tryd.prog 25 #[.pointer (some ⟨b, 0, none⟩)] w fun e w' => e = .returned (.int .u32 c) ∧ w' = w := by
  go_enter Tryd.func25, Tryd.ntmps25
  go_wp2
  go_ret
  exact ⟨rfl, rfl⟩

theorem cell_new (w : World) (v : Value) (t : TypeId) : (w.alloc (.cells #[v] t)).cell? ⟨w.heap.size, 0, none⟩ = some v := by simp

set_option maxHeartbeats 400000 in
theorem crc32_any (s : ByteArray) (w : World) (hs : s.size ≤ maxLen) (ht : Tab w) :
    Calls Tryd.prog 19 #[.string s] w fun e w' => e = .returned (.int .u32 (crcW 0 s.data.toList : Nat)) ∧ Below w.heap.size w w' := by
  go_enter Tryd.func19, Tryd.ntmps19
  go_wp2_with fail
  refine (crcWrite_any _ 0 s _ hs (by decide) (ht.alloc _) (cell_new w _ _) (by simp)).mono ?_
  rintro e w1 ⟨rfl, rfl⟩
  generalize hcc : crcW 0 s.data.toList = c at *
  have HCC := hidM hcc
  clear hcc
  go_wp2_with fail
  refine (crcSum_any _ c _ (cell_new w _ _)).mono ?_
  rintro e w2 ⟨rfl, rfl⟩
  go_wp2
  go_ret
  exact ⟨ret_int (by rw [HCC.out]), (Below.refl _ _).alloc (Nat.le_refl _) _⟩

set_option maxHeartbeats 400000 in
theorem told_any (b a : Nat) (w : World) (ha : a < 65521) (hcell : w.cell? ⟨b, 0, none⟩ = some (.int .u32 a)) :
    Calls Tryd.prog 45 #[.pointer (some ⟨b, 0, none⟩)] w fun e w' => e = .returned (.int .u32 ((a + 1) % 65521 : Nat)) ∧ w' = w := by
  go_enter Tryd.func45, Tryd.ntmps45
  go_wp2
  go_ret
  exact ⟨ret_int (by omega), rfl⟩

theorem or16' (d t : Nat) (hd : d < 65521) (ht : t < 65521) : bits .or .u32 ((d : Int) * 65536) (t : Int) = ((d * 65536 + t : Nat) : Int) := by
  rw [show (d : Int) * 65536 = ((d * 65536 : Nat) : Int) by omega, u32_or_nat _ _ (by omega) (by omega), nat_join 16 _ _ (by omega) (by omega)]

set_option maxHeartbeats 400000 in
theorem adlerSum_any (b a d : Nat) (w : World) (ha : a < 65521) (hd : d < 65521) (h0 : w.cell? ⟨b, 0, none⟩ = some (.int .u32 a)) (h1 : w.cell? ⟨b, 1, none⟩ = some (.int .u32 d)) :
    Calls Tryd.prog 26 #[.pointer (some ⟨b, 0, none⟩)] w fun e w' => e = .returned (.int .u32 (d * 65536 + (a + 1) % 65521 : Nat)) ∧ ∃ n, w' = w.drewN n := by
  go_enter Tryd.func26, Tryd.ntmps26
  go_wp2
  go_quiet ((go_at_call 45; exact Calls.quiet_of_same (told_any b a _ ha (by simpa using h0))))
  go_wp2
  go_ret
  have e := or16' d ((a + 1) % 65521) hd (by omega)
  rw [show (((a + 1) % 65521 : Nat) : Int) = ((a : Int) + 1) % 65521 by omega] at e
  exact ⟨ret_int e, nq, rfl⟩

theorem Only.cell {b : Nat} {w w' : World} (h : Only b w w') {p : Addr} (hp : p.block ≠ b) : w'.cell? p = w.cell? p := World.cell?_of_block (h.block _ hp)

theorem Only.frozen {b : Nat} {w w' : World} (h : Only b w w') {p : Addr} (hp : p.block ≠ b) : w'.frozen? p = w.frozen? p := World.frozen?_of_block (h.block _ hp)

theorem Tab.only {w w' : World} (h : Tab w) {b : Nat} (ho : Only b w w') (hb : 0 < b) : Tab w' :=
  ⟨by rw [ho.size]; exact h.1, fun i hi => (ho.cell (p := ⟨0, i, none⟩) (by show 0 ≠ b; omega)).trans (h.2 i hi)⟩

/-- A box of Adler's: a is one less than it is told. -/
structure AdBox (w : World) (b : Nat) (s : Nat × Nat) : Prop where
  lt1 : s.1 < 65521
  lt2 : s.2 < 65521
  c0 : w.cell? ⟨b, 0, none⟩ = some (.int .u32 ((s.1 + 65520) % 65521 : Nat))
  c1 : w.cell? ⟨b, 1, none⟩ = some (.int .u32 (s.2 : Nat))
  f0 : w.frozen? ⟨b, 0, none⟩ = false
  f1 : w.frozen? ⟨b, 1, none⟩ = false

theorem AdBox.only {w w' : World} {b c : Nat} {s : Nat × Nat} (h : AdBox w b s) (ho : Only c w w') (hne : b ≠ c) : AdBox w' b s :=
  ⟨h.lt1, h.lt2, (ho.cell (p := ⟨b, 0, none⟩) hne).trans h.c0, (ho.cell (p := ⟨b, 1, none⟩) hne).trans h.c1, (ho.frozen (p := ⟨b, 0, none⟩) hne).trans h.f0, (ho.frozen (p := ⟨b, 1, none⟩) hne).trans h.f1⟩

theorem AdBox.below {w w' : World} {b B : Nat} {s : Nat × Nat} (h : AdBox w b s) (ho : Below B w w') (hlt : b < B) : AdBox w' b s :=
  ⟨h.lt1, h.lt2, (ho.cell (p := ⟨b, 0, none⟩) hlt).trans h.c0, (ho.cell (p := ⟨b, 1, none⟩) hlt).trans h.c1, (ho.frozen (p := ⟨b, 0, none⟩) hlt).trans h.f0, (ho.frozen (p := ⟨b, 1, none⟩) hlt).trans h.f1⟩

theorem adBox_stored {w : World} {b n x y : Nat} {u v : Value} (s : Nat × Nat) (h1 : s.1 < 65521) (h2 : s.2 < 65521) (hx : x = (s.1 + 65520) % 65521) (hy : y = s.2)
    (c0 : w.cell? ⟨b, 0, none⟩ = some u) (c1 : w.cell? ⟨b, 1, none⟩ = some v) (f0 : w.frozen? ⟨b, 0, none⟩ = false) (f1 : w.frozen? ⟨b, 1, none⟩ = false) :
    AdBox (((w.drewN n).setCell ⟨b, 0, none⟩ (.int .u32 (x : Int))).setCell ⟨b, 1, none⟩ (.int .u32 (y : Int))) b s := by
  have g0 : (w.drewN n).cell? ⟨b, 0, none⟩ = some u := c0
  have g1 : (w.drewN n).cell? ⟨b, 1, none⟩ = some v := c1
  have k0 : (((w.drewN n).setCell ⟨b, 0, none⟩ (.int .u32 (x : Int))).setCell ⟨b, 1, none⟩ (.int .u32 (y : Int))).cell? ⟨b, 0, none⟩ = some (.int .u32 (x : Int)) := by
    rw [World.cell?_setCell_other _ _ _ _ (by simp), World.cell?_setCell_same _ _ _ g0]
  have k1 : (((w.drewN n).setCell ⟨b, 0, none⟩ (.int .u32 (x : Int))).setCell ⟨b, 1, none⟩ (.int .u32 (y : Int))).cell? ⟨b, 1, none⟩ = some (.int .u32 (y : Int)) := by
    rw [World.cell?_setCell_same (u := v)]
    rw [World.cell?_setCell_other _ _ _ _ (by simp)]
    exact g1
  have l0 : (((w.drewN n).setCell ⟨b, 0, none⟩ (.int .u32 (x : Int))).setCell ⟨b, 1, none⟩ (.int .u32 (y : Int))).frozen? ⟨b, 0, none⟩ = false := by
    rw [World.frozen?_setCell, World.frozen?_setCell]; exact f0
  have l1 : (((w.drewN n).setCell ⟨b, 0, none⟩ (.int .u32 (x : Int))).setCell ⟨b, 1, none⟩ (.int .u32 (y : Int))).frozen? ⟨b, 1, none⟩ = false := by
    rw [World.frozen?_setCell, World.frozen?_setCell]; exact f1
  generalize ((w.drewN n).setCell ⟨b, 0, none⟩ (.int .u32 (x : Int))).setCell ⟨b, 1, none⟩ (.int .u32 (y : Int)) = W at *
  rw [hx] at k0
  rw [hy] at k1
  exact ⟨h1, h2, k0, k1, l0, l1⟩

set_option maxHeartbeats 800000 in
theorem adlerWrite_core (b a d : Nat) (s : ByteArray) (w : World) (hs : s.size ≤ maxLen) (ha : a < 65521) (hd : d < 65521)
    (h0 : w.cell? ⟨b, 0, none⟩ = some (.int .u32 a)) (h1 : w.cell? ⟨b, 1, none⟩ = some (.int .u32 d)) (hf0 : w.frozen? ⟨b, 0, none⟩ = false) (hf1 : w.frozen? ⟨b, 1, none⟩ = false) :
    Calls Tryd.prog 21 #[.pointer (some ⟨b, 0, none⟩), .string s] w fun e w' => e = .returned (.tuple #[]) ∧
      ∃ n, w' = ((w.drewN n).setCell ⟨b, 0, none⟩ (.int .u32 (((adR ((a + 1) % 65521, d) s.data.toList).1 + 65520) % 65521 : Nat))).setCell ⟨b, 1, none⟩ (.int .u32 ((adR ((a + 1) % 65521, d) s.data.toList).2 : Nat)) := by
  unfold maxLen at hs
  go_enter Tryd.func21, Tryd.ntmps21
  go_wp2
  go_quiet ((go_at_call 45; exact Calls.quiet_of_same (told_any b a _ ha (by simpa using h0))))
  go_wp2
  go_loop [4, 5, 6] (fun x y i => ∃ (k p q : Nat), k ≤ s.size ∧ i = .int .i64 k ∧ x = .int .u32 p ∧ y = .int .u32 q ∧ p < 65521 ∧ q < 65521 ∧ (p, q) = adR ((a + 1) % 65521, d) (s.data.toList.take k)) (fun _ _ i => s.size - (intOf i).toNat)
  case atStart => exact ⟨0, _, _, Nat.zero_le _, rfl, rfl, rfl, by omega, by omega, rfl⟩
  case round =>
    obtain ⟨k, p, q, hk, rfl, rfl, rfl, hp, hq, hr⟩ := hrel
    have HR := hidM hr
    clear hr
    by_cases hlt : k < s.size
    · have hb := byte_lt s[k]
      have HD : Hid (((p + s[k].toNat) % 65521, (q + (p + s[k].toNat) % 65521) % 65521) = adR ((a + 1) % 65521, d) (s.data.toList.take (k + 1))) := by
        unfold Hid; rw [adR_take _ s k hlt, ← HR.out]; rfl
      go_wp2
      go_round
      case rel => exact ⟨k + 1, _, _, by omega, by go_num, val_int (by omega), val_int (by omega), by omega, by omega, HD.out⟩
      case measure => simp [intOf]; omega
    · have HE : Hid (adR ((a + 1) % 65521, d) s.data.toList = (p, q)) := by
        unfold Hid; rw [HR.out, List.take_of_length_le (by simp; omega)]
      go_wp2
      go_end0
      exact ⟨rfl, nq, by rw [HE.out]; simp only [show (p : Int) + 65521 - 1 = (p : Int) + 65520 by omega]⟩

theorem adlerWrite_any (b : Nat) (s0 : Nat × Nat) (s : ByteArray) (w : World) (hs : s.size ≤ maxLen) (h : AdBox w b s0) :
    Calls Tryd.prog 21 #[.pointer (some ⟨b, 0, none⟩), .string s] w fun e w' => e = .returned (.tuple #[]) ∧ Only b w w' ∧ AdBox w' b (adR s0 s.data.toList) := by
  have hl := adR_lt s.data.toList s0 h.lt1 h.lt2
  have e1 : ((s0.1 + 65520) % 65521 + 1) % 65521 = s0.1 := by have := h.lt1; omega
  refine (adlerWrite_core b _ _ s w hs (Nat.mod_lt _ (by decide)) h.lt2 h.c0 h.c1 h.f0 h.f1).mono ?_
  rintro e w' ⟨rfl, n, rfl⟩
  rw [e1]
  refine ⟨rfl, (((Only.refl b w).drewN n).setCell 0 _).setCell 1 _, adBox_stored _ hl.1 hl.2 rfl rfl h.c0 h.c1 h.f0 h.f1⟩

theorem adlerSum_box (b : Nat) (s0 : Nat × Nat) (w : World) (h : AdBox w b s0) :
    Calls Tryd.prog 26 #[.pointer (some ⟨b, 0, none⟩)] w fun e w' => e = .returned (.int .u32 (s0.2 * 65536 + s0.1 : Nat)) ∧ ∃ n, w' = w.drewN n := by
  have e1 : ((s0.1 + 65520) % 65521 + 1) % 65521 = s0.1 := by have := h.lt1; omega
  have := adlerSum_any b _ _ w (Nat.mod_lt _ (by decide)) h.lt2 h.c0 h.c1
  rw [e1] at this
  exact this

theorem adBox_new (w : World) : AdBox (w.alloc (.cells #[.int .u32 0, .int .u32 0] 51)) w.heap.size (1, 0) :=
  ⟨by decide, by decide, by simp, by simp, by simp, by simp⟩

set_option maxHeartbeats 400000 in
theorem adler32_any (s : ByteArray) (w : World) (hs : s.size ≤ maxLen) :
    Calls Tryd.prog 27 #[.string s] w fun e w' => e = .returned (.int .u32 (adSum s.data.toList : Nat)) ∧ Below w.heap.size w w' := by
  have hbox := hidM (adBox_new w)
  go_enter Tryd.func27, Tryd.ntmps27
  go_wp2_with fail
  refine (adlerWrite_any _ (1, 0) s _ hs hbox.out).mono ?_
  rintro e w1 ⟨rfl, ho, hb⟩
  have HB := hidM hb
  have HL : Hid (Below w.heap.size w w1) := ((Below.refl _ _).alloc (Nat.le_refl _) _).trans (ho.below (Nat.le_refl _))
  have HE : Hid (adSum s.data.toList = (adR (1, 0) s.data.toList).2 * 65536 + (adR (1, 0) s.data.toList).1) := rfl
  clear hb ho hbox
  generalize adR (1, 0) s.data.toList = r at *
  go_wp2_with fail
  refine (adlerSum_box _ r _ HB.out).mono ?_
  rintro e w2 ⟨rfl, n, rfl⟩
  go_wp2
  go_ret
  exact ⟨ret_int (by rw [HE.out]; omega), below_drewN HL.out n⟩

def alphaL : List UInt8 := [65, 66, 67, 68, 69, 70, 71, 72, 73, 74, 75, 76, 77, 78, 79, 80, 81, 82, 83, 84, 85, 86, 87, 88, 89, 90, 97, 98, 99, 100, 101, 102, 103, 104, 105, 106, 107, 108, 109, 110, 111, 112, 113, 114, 115, 116, 117, 118, 119, 120, 121, 122, 48, 49, 50, 51, 52, 53, 54, 55, 56, 57, 43, 47]

def alphaS : ByteArray := ⟨alphaL.toArray⟩

def alphaN (q : Nat) : UInt8 := alphaL.getD q 0

theorem alpha_at (q : Nat) (h : q < 64) : alphaS[q]'h = alphaN q := by
  unfold alphaN
  rw [List.getD_eq_getElem?_getD, List.getElem?_eq_getElem (h := h)]
  rfl

theorem foldB_small (l : List UInt8) : ∀ x n, x < 256 ^ n → l.foldl (fun x c => (x * 256 + c.toNat) % M64) x < 256 ^ (n + l.length) := by
  induction l with
  | nil => intro x n h; simpa using h
  | cons c l ih =>
    intro x n h
    have hc := byte_lt c
    have h1 : (x * 256 + c.toNat) % M64 < 256 ^ (n + 1) := by
      rw [Nat.pow_succ]
      exact Nat.lt_of_le_of_lt (Nat.mod_le _ _) (by omega)
    have := ih _ (n + 1) h1
    rw [List.foldl_cons, List.length_cons, show n + (l.length + 1) = n + 1 + l.length by omega]
    exact this

theorem numB_small (l : List UInt8) : numB l < 256 ^ l.length := by
  have := foldB_small l 0 0 (by decide)
  simpa [numB] using this

/-- The number of three bytes, those that lack being 0. -/
def gNum (g : List UInt8) : Nat := numB g * 2 ^ (8 * (3 - g.length))

theorem gNum_lt (g : List UInt8) (h1 : 1 ≤ g.length) (h2 : g.length ≤ 3) : gNum g < 16777216 := by
  have h := numB_small g
  unfold gNum
  rcases (by omega : g.length = 1 ∨ g.length = 2 ∨ g.length = 3) with e | e | e <;> rw [e] at h ⊢ <;> omega

def gDigit (g : List UInt8) (i : Nat) : UInt8 := if g.length < i then 61 else alphaN (gNum g / 2 ^ (18 - 6 * i) % 64)

def g64 (g : List UInt8) (n : Nat) : List UInt8 := (List.range n).map (gDigit g)

theorem g64_succ (g : List UInt8) (n : Nat) : g64 g (n + 1) = g64 g n ++ [gDigit g n] := by simp [g64, List.range_succ]

theorem g64_len (g : List UInt8) (n : Nat) : (g64 g n).length = n := by simp [g64]

theorem and63 (a : Nat) (ha : a < 16777216) : bits .and .u64 (a : Int) 63 = ((a % 64 : Nat) : Int) := by
  have := u64_and_nat a 63 (by omega) (by omega)
  rw [nat_mask6] at this
  exact this

theorem pick64 (n j : Nat) (h : n < 16777216) : bits .and .u64 ((n : Int) / 2 ^ j) 63 = ((n / 2 ^ j % 64 : Nat) : Int) := by
  have e : ((n : Int) / 2 ^ j) = ((n / 2 ^ j : Nat) : Int) := by simp
  rw [e]
  exact and63 _ (Nat.lt_of_le_of_lt (Nat.div_le_self _ _) h)

theorem wrapN (n : Nat) (h : n < 16777216) : IntKind.u64.wrap (n : Int) = (n : Int) := by rw [u64_wrap]; omega

/-- Base 64, three bytes at a time; the fuel is the length. -/
def b64F : Nat → List UInt8 → List UInt8
  | 0, _ => []
  | f + 1, l => if l.length ≥ 3 then g64 (l.take 3) 4 ++ b64F f (l.drop 3) else if l.length = 0 then [] else g64 l 4

theorem b64F_more (f : Nat) : ∀ (l : List UInt8) (f' : Nat), l.length < f → l.length < f' → b64F f l = b64F f' l := by
  induction f with
  | zero => intro l f' h; omega
  | succ f ih =>
    intro l f' h h'
    rcases f' with _ | f'
    · omega
    · unfold b64F
      by_cases h3 : l.length ≥ 3
      · rw [if_pos h3, if_pos h3, ih (l.drop 3) f' (by simp; omega) (by simp; omega)]
      · rw [if_neg h3, if_neg h3]

def b64 (l : List UInt8) : List UInt8 := b64F (l.length + 1) l

theorem b64_three (l : List UInt8) (h : l.length ≥ 3) : b64 l = g64 (l.take 3) 4 ++ b64 (l.drop 3) := by
  unfold b64
  conv => lhs; unfold b64F
  rw [if_pos h, b64F_more l.length (l.drop 3) ((l.drop 3).length + 1) (by simp; omega) (by omega)]

theorem b64_short (l : List UInt8) (h : l.length < 3) (h0 : 0 < l.length) : b64 l = g64 l 4 := by
  unfold b64 b64F
  rw [if_neg (by omega), if_neg (by omega)]

theorem b64_nil : b64 [] = [] := rfl

theorem b64_len (l : List UInt8) : (b64 l).length = (l.length + 2) / 3 * 4 := by
  have : ∀ n, ∀ l : List UInt8, l.length ≤ n → (b64 l).length = (l.length + 2) / 3 * 4 := by
    intro n
    induction n with
    | zero => intro l h; have : l = [] := List.eq_nil_of_length_eq_zero (by omega); subst this; rfl
    | succ n ih =>
      intro l h
      by_cases h3 : l.length ≥ 3
      · rw [b64_three l h3, List.length_append, g64_len, ih _ (by simp; omega)]; simp; omega
      · by_cases h0 : l.length = 0
        · have : l = [] := List.eq_nil_of_length_eq_zero h0
          subst this; rfl
        · rw [b64_short l (by omega) (by omega), g64_len]; omega
  exact this _ l (Nat.le_refl _)

theorem cell_new_eq (w : World) (v v' : Value) (h : v = v') : ∀ j u, [v'][j]? = some u → (w.alloc (.cells #[v] 5)).cell? ((⟨w.heap.size, 0, none⟩ : Addr).add j) = some u := by
  subst h; exact cell_new_one w v

set_option maxHeartbeats 800000 in
theorem group_any (v : Value) (g : ByteArray) (P : List UInt8) (B : Nat) (w : World) (h1 : 1 ≤ g.size) (h2 : g.size ≤ 3) (hP : P.length ≤ 1099511627776)
    (hown : OwnB w B v P) (hB : B ≤ w.heap.size) :
    Calls Tryd.prog 47 #[v, .string g] w fun e w' => ∃ v', e = .returned v' ∧ OwnB w' B v' (P ++ g64 g.data.toList 4) ∧ Below B w w' := by
  obtain ⟨i0, hi, hz0, hz1, hz2⟩ := info_parts Tryd.info5
  obtain ⟨n, hn⟩ : ∃ n, n = gNum g.data.toList := ⟨_, rfl⟩
  have hlen : g.data.toList.length = g.size := by simp
  have hnl : n < 16777216 := by rw [hn]; exact gNum_lt _ (by omega) (by omega)
  have HN : Hid (IntKind.u64.wrap ((numB g.data.toList : Int) * 2 ^ (8 * (3 - g.size))) = (n : Int)) := by
    unfold Hid
    have := wrapN n hnl
    rw [← this, hn]
    unfold gNum
    rw [hlen]
    simp
  have HG := hidM hn
  have HLEN := hidM hlen
  clear hn hlen
  go_enter Tryd.func47, Tryd.ntmps47
  go_wp2_with fail
  refine (fromBig_any g w (by unfold maxLen; omega)).mono ?_
  rintro e w1 ⟨rfl, rfl⟩
  generalize numB g.data.toList = x at *
  go_wp2
  rw [HN.out]
  clear HN
  go_loopw [0, 6] (fun u i wr => ∃ (j : Nat), j ≤ 4 ∧ i = .int .i64 j ∧ OwnB wr B u (P ++ g64 g.data.toList j) ∧ Below B w1 wr) (fun _ i _ => 4 - (intOf i).toNat)
  case atStart => exact ⟨0, by omega, rfl, by simpa [g64] using hown, Below.refl _ _⟩
  case round =>
    obtain ⟨j, hj, rfl, hownr, hbr⟩ := hrel
    clear hown
    have hBr := hbr.size
    by_cases hj4 : j < 4
    · have HL : Hid ((P ++ g64 g.data.toList j).length = P.length + j) := by unfold Hid; rw [List.length_append, g64_len]
      by_cases hjg : g.size < j
      · have HD : Hid (g64 g.data.toList (j + 1) = g64 g.data.toList j ++ [61]) := by
          unfold Hid; rw [g64_succ]; unfold gDigit; rw [if_pos (by rw [HLEN.out]; exact hjg)]
        generalize g64 g.data.toList j = Q at *
        go_wp2_with (first
          | (at_builtin; refine wpList_append_own _ rfl _ _ 57 rfl B 5 i0 (.int .u8 0) 1 1 Tryd.underlying57 hi hz0 hz1 hz2 rfl (by decide) _ _ _ rfl (hownr.alloc _) ⟨wr.heap.size, 0, none⟩ 1 1 [.int .u8 ((61 : UInt8).toNat : Int)] ?c0 rfl ?c1 ?c2 ?c3 ?c4 ?c5 ?_))
        case c0 => rfl
        case c1 => exact cell_new_one wr _
        case c2 => intro u hu; simp at hu; subst hu; rfl
        case c3 => have := HL.out; unfold maxLen; omega
        case c4 => have := HL.out; omega
        case c5 => simp; omega
        intro v' w2 hown' hgrow _
        have HO : Hid (OwnB w2 B v' ((P ++ Q) ++ [61])) := own_push (by rw [List.length_append]; exact hown')
        have HB := hidM (below_push hownr hbr (by omega) hgrow)
        clear hown' hgrow hownr hbr hB hBr
        go_wp2
        go_roundw
        case rel => exact ⟨j + 1, by omega, by go_num, by rw [HD.out, ← List.append_assoc]; exact HO.out, HB.out⟩
        case measure => simp [intOf]; omega
      · have h18 : 6 * j ≤ 18 := by omega
        obtain ⟨q, hq⟩ : ∃ q, q = n / 2 ^ (18 - 6 * j) % 64 := ⟨_, rfl⟩
        have hq1 : q < 64 := by rw [hq]; exact Nat.mod_lt _ (by decide)
        have hq2 : bits .and .u64 ((n : Int) / 2 ^ (18 - 6 * j)) 63 = (q : Int) := by rw [hq]; exact pick64 n _ hnl
        have HD : Hid (g64 g.data.toList (j + 1) = g64 g.data.toList j ++ [alphaN q]) := by
          unfold Hid; rw [g64_succ]; unfold gDigit; rw [if_neg (by rw [HLEN.out]; exact hjg), ← HG.out, ← hq]
        clear hq
        generalize g64 g.data.toList j = Q at *
        go_wp2_with (first
          | (at_builtin; refine wpList_append_own _ rfl _ _ 57 rfl B 5 i0 (.int .u8 0) 1 1 Tryd.underlying57 hi hz0 hz1 hz2 rfl (by decide) _ _ _ rfl (hownr.alloc _) ⟨wr.heap.size, 0, none⟩ 1 1 [.int .u8 ((alphaN q).toNat : Int)] ?d0 rfl ?d1 ?d2 ?d3 ?d4 ?d5 ?_))
        case d0 => rfl
        case d1 => exact cell_new_eq wr _ _ (val_int (congrArg (fun c : UInt8 => (c.toNat : Int)) (alpha_at q hq1)))
        case d2 => intro u hu; simp at hu; subst hu; rfl
        case d3 => have := HL.out; unfold maxLen; omega
        case d4 => have := HL.out; omega
        case d5 => simp; omega
        intro v' w2 hown' hgrow _
        have HO : Hid (OwnB w2 B v' ((P ++ Q) ++ [alphaN q])) := own_push (by rw [List.length_append]; exact hown')
        have HB := hidM (below_push hownr hbr (by omega) hgrow)
        clear hown' hgrow hownr hbr hB hBr
        go_wp2
        go_roundw
        case rel => exact ⟨j + 1, by omega, by go_num, by rw [HD.out, ← List.append_assoc]; exact HO.out, HB.out⟩
        case measure => simp [intOf]; omega
    · have h4 : j = 4 := by omega
      subst h4
      have HO := hidM hownr
      have HB := hidM hbr
      clear hownr hbr
      go_wp2
      go_ret
      exact ⟨_, rfl, HO.out, HB.out⟩

def strLen : Value → Nat | .string s => s.size | _ => 0

theorem ext_front (t : ByteArray) (k : Nat) : (t.extract 0 k).data.toList = t.data.toList.take k := by simp

theorem ext_back (t : ByteArray) (k : Nat) : (t.extract k t.size).data.toList = t.data.toList.drop k := by
  simp
  apply List.take_of_length_le
  simp

set_option maxHeartbeats 800000 in
theorem base64_any (s : ByteArray) (w : World) (hs : s.size ≤ 1048576) :
    Calls Tryd.prog 24 #[.string s] w fun e w' => e = .returned (.string ⟨(b64 s.data.toList).toArray⟩) ∧ Below w.heap.size w w' := by
  obtain ⟨i0, hi, hz0, hz1, hz2⟩ := info_parts Tryd.info5
  go_enter Tryd.func24, Tryd.ntmps24
  go_wp2_with (at_make; refine wpList_make_own _ rfl _ _ 57 rfl w.heap.size 5 i0 (.int .u8 0) 1 Tryd.underlying57 hi hz0 hz1 .i64 .i64 _ ((s.size + 2) / 3 * 4) rfl rfl ?c0 ?c1 ?c2 ?c3 ?_)
  case c0 => omega
  case c1 => rw [hz2]; omega
  case c2 => unfold maxLen; omega
  case c3 => exact Nat.le_refl _
  intro w1 hown hgrow
  have hbel : Below w.heap.size w w1 := (Below.refl _ _).grown hgrow (Nat.le_refl _) (by intro k hk; cases hk)
  have hown2 : OwnB w1 w.heap.size (.slice (some ⟨w.heap.size, 0, none⟩) 0 ((s.size + 2) / 3 * 4)) [] := hown
  clear hown hgrow
  go_wp2
  go_loopw [0, 3] (fun tv v wr => ∃ (t : ByteArray) (P : List UInt8), tv = .string t ∧ t.size ≤ s.size ∧ P.length + 4 * t.size ≤ 4 * s.size ∧ b64 s.data.toList = P ++ b64 t.data.toList ∧ OwnB wr w.heap.size v P ∧ Below w.heap.size w wr) (fun tv _ _ => strLen tv)
  case atStart => exact ⟨s, [], rfl, Nat.le_refl _, by simp, rfl, hown2, hbel⟩
  case round =>
    obtain ⟨t, P, rfl, ht, hP, hE, hownr, hbr⟩ := hrel
    clear hown2 hbel
    have HE := hidM hE
    have HB := hidM hbr
    have hBr := hbr.size
    clear hE hbr
    by_cases h3 : 3 ≤ t.size
    · go_wp2_with fail
      refine (group_any u3 (t.extract 0 3) P w.heap.size wr (by simp; omega) (by simp; omega) (by omega) hownr hBr).mono ?_
      rintro e w2 ⟨v', rfl, ho, hb⟩
      have HO := hidM ho
      have HB2 : Hid (Below w.heap.size w w2) := HB.out.trans hb
      have HE2 : Hid (b64 s.data.toList = (P ++ g64 (t.extract 0 3).data.toList 4) ++ b64 (t.extract 3 t.size).data.toList) := by
        unfold Hid; rw [HE.out, b64_three _ (by simp; omega), ext_front, ext_back, List.append_assoc]
      have HP2 : Hid ((P ++ g64 (t.extract 0 3).data.toList 4).length + 4 * (t.size - 3) ≤ 4 * s.size) := by unfold Hid; rw [List.length_append, g64_len]; omega
      clear ho hb hownr hBr
      generalize P ++ g64 (t.extract 0 3).data.toList 4 = P2 at *
      go_wp2
      go_roundw
      case rel => exact ⟨_, P2, rfl, by simp; omega, by have := HP2.out; simp; omega, HE2.out, HO.out, HB2.out⟩
      case measure => simp [strLen]; omega
    · by_cases h0 : 0 < t.size
      · go_wp2_with fail
        refine (group_any u3 t P w.heap.size wr (by omega) (by omega) (by omega) hownr hBr).mono ?_
        rintro e w2 ⟨v', rfl, ho, hb⟩
        have HB2 : Hid (Below w.heap.size w w2) := HB.out.trans hb
        have HE2 : Hid (b64 s.data.toList = P ++ g64 t.data.toList 4) := by
          unfold Hid; rw [HE.out, b64_short _ (by simp; omega) (by simp; omega)]
        have hconv := conv_own ho
        clear ho hb hownr hBr
        generalize P ++ g64 t.data.toList 4 = P2 at *
        go_wp2
        go_ret
        exact ⟨by rw [HE2.out]; rfl, HB2.out⟩
      · have HE2 : Hid (b64 s.data.toList = P) := by
          have hz : t.data.toList = [] := List.eq_nil_of_length_eq_zero (by rw [show t.data.toList.length = t.size by simp]; omega)
          unfold Hid; rw [HE.out, hz, b64_nil, List.append_nil]
        have hconv := conv_own hownr
        clear hownr hBr
        go_wp2
        go_ret
        exact ⟨by rw [HE2.out]; rfl, HB.out⟩

def isDig (c : UInt8) : Bool := (decide (48 ≤ c.toNat) && decide (c.toNat ≤ 57)) || (decide (97 ≤ c.toNat) && decide (c.toNat ≤ 102))

def hexV (c : UInt8) : Nat := if 48 ≤ c.toNat ∧ c.toNat ≤ 57 then c.toNat - 48 else if 97 ≤ c.toNat ∧ c.toNat ≤ 102 then c.toNat - 87 else 0

theorem hexV_lt (c : UInt8) : hexV c < 16 := by
  unfold hexV
  split
  · omega
  · split <;> omega

theorem dig_is (q : Nat) (h : q < 16) : isDig (digN q) = true ∧ hexV (digN q) = q := by
  have : ∀ q, q < 16 → isDig (digN q) = true ∧ hexV (digN q) = q := by decide
  exact this q h

def hexed (l : List UInt8) : Bool := l.all isDig && decide (l.length % 2 = 0)

def pairV (l : List UInt8) (k : Nat) : UInt8 := UInt8.ofNat (hexV (l.getD (2 * k) 0) * 16 + hexV (l.getD (2 * k + 1) 0))

def unhexN (l : List UInt8) (n : Nat) : List UInt8 := (List.range n).map (pairV l)

def unhexL (l : List UInt8) : List UInt8 := unhexN l (l.length / 2)

theorem unhexN_succ (l : List UInt8) (n : Nat) : unhexN l (n + 1) = unhexN l n ++ [pairV l n] := by simp [unhexN, List.range_succ]

theorem unhexN_len (l : List UInt8) (n : Nat) : (unhexN l n).length = n := by simp [unhexN]

theorem unhexL_cons (a b : UInt8) (l : List UInt8) : unhexL (a :: b :: l) = UInt8.ofNat (hexV a * 16 + hexV b) :: unhexL l := by
  unfold unhexL unhexN
  rw [show (a :: b :: l).length / 2 = l.length / 2 + 1 by simp; omega, List.range_succ_eq_map, List.map_cons, List.map_map]
  congr 1

theorem unhex_hex (l : List UInt8) : unhexL (hexL l) = l := by
  induction l with
  | nil => rfl
  | cons c l ih =>
    have hc := byte_lt c
    show unhexL (digN (c.toNat / 16) :: digN (c.toNat % 16) :: hexL l) = _
    rw [unhexL_cons, ih, (dig_is _ (by omega)).2, (dig_is _ (by omega)).2]
    congr 1
    apply UInt8.toNat_inj.1
    simp
    omega

theorem hexed_hex (l : List UInt8) : hexed (hexL l) = true := by
  unfold hexed
  rw [hexL_len]
  have : (hexL l).all isDig = true := by
    induction l with
    | nil => rfl
    | cons c l ih =>
      have hc := byte_lt c
      show (digN (c.toNat / 16) :: digN (c.toNat % 16) :: hexL l).all isDig = true
      rw [List.all_cons, List.all_cons, ih, (dig_is _ (by omega)).1, (dig_is _ (by omega)).1]
      rfl
  rw [this]
  simp

/-- All places below n hold digits. -/
def DigTo (l : List UInt8) (n : Nat) : Prop := ∀ i, i < n → isDig (l.getD i 0) = true

theorem digTo_all (l : List UInt8) (h : DigTo l l.length) : l.all isDig = true := by
  rw [List.all_eq_true]
  intro c hc
  obtain ⟨i, hi, rfl⟩ := List.getElem_of_mem hc
  have := h i hi
  rwa [List.getD_eq_getElem?_getD, List.getElem?_eq_getElem hi] at this

theorem not_all (l : List UInt8) (i : Nat) (hi : i < l.length) (h : isDig (l.getD i 0) = false) : l.all isDig = false := by
  rw [List.all_eq_false]
  refine ⟨l[i], List.getElem_mem hi, ?_⟩
  rw [List.getD_eq_getElem?_getD, List.getElem?_eq_getElem hi] at h
  simpa using h

theorem all_digTo (l : List UInt8) (h : l.all isDig = true) : DigTo l l.length := by
  intro i hi
  rw [List.getD_eq_getElem?_getD, List.getElem?_eq_getElem hi]
  exact List.all_eq_true.1 h _ (List.getElem_mem hi)

theorem getD_at (s : ByteArray) (k : Nat) (h : k < s.size) : s.data.toList.getD k 0 = s[k] := by
  rw [List.getD_eq_getElem?_getD, List.getElem?_eq_getElem (by simpa using h)]
  rfl

theorem len_size (s : ByteArray) : s.data.toList.length = s.size := by simp

theorem ret_pair {a b : Int} {k : IntKind} {p q : Bool} (h : a = b) (g : p = q) : Ending.returned (.tuple #[.int k a, .bool p]) = .returned (.tuple #[.int k b, .bool q]) := by rw [h, g]

set_option maxHeartbeats 400000 in
theorem hexValue_any (c : UInt8) (w : World) :
    Calls Tryd.prog 46 #[.int .u8 (c.toNat : Int)] w fun e w' => e = .returned (.tuple #[.int .u8 (hexV c : Nat), .bool (isDig c)]) ∧ w' = w := by
  have hc := byte_lt c
  by_cases h1 : 48 ≤ c.toNat ∧ c.toNat ≤ 57
  · have HV : Hid (hexV c = c.toNat - 48) := by unfold Hid hexV; rw [if_pos h1]
    have HD : Hid (isDig c = true) := by unfold Hid isDig; simp [h1]
    obtain ⟨a1, a2⟩ := h1
    generalize c.toNat = n at *
    go_enter Tryd.func46, Tryd.ntmps46
    go_wp2
    go_ret2
    exact ⟨ret_pair (by rw [HV.out]; omega) HD.out.symm, rfl⟩
  · by_cases h2 : 97 ≤ c.toNat ∧ c.toNat ≤ 102
    · have HV : Hid (hexV c = c.toNat - 87) := by unfold Hid hexV; rw [if_neg h1, if_pos h2]
      have HD : Hid (isDig c = true) := by unfold Hid isDig; simp [h2]
      obtain ⟨a1, a2⟩ := h2
      clear h1
      generalize c.toNat = n at *
      have g1 : ¬ n ≤ 57 := by omega
      go_enter Tryd.func46, Tryd.ntmps46
      go_wp2
      go_ret2
      exact ⟨ret_pair (by rw [HV.out]; omega) HD.out.symm, rfl⟩
    · have HV : Hid (hexV c = 0) := by unfold Hid hexV; rw [if_neg h1, if_neg h2]
      have HD : Hid (isDig c = false) := by unfold Hid isDig; simp; omega
      have hcases : c.toNat < 48 ∨ (57 < c.toNat ∧ c.toNat < 97) ∨ 102 < c.toNat := by omega
      clear h1 h2
      generalize c.toNat = n at *
      rcases hcases with g | ⟨g1, g2⟩ | g
      · have g3 : n < 97 := by omega
        go_enter Tryd.func46, Tryd.ntmps46
        go_wp2
        go_ret2
        exact ⟨ret_pair (by rw [HV.out]; rfl) HD.out.symm, rfl⟩
      · go_enter Tryd.func46, Tryd.ntmps46
        go_wp2
        go_ret2
        exact ⟨ret_pair (by rw [HV.out]; rfl) HD.out.symm, rfl⟩
      · go_enter Tryd.func46, Tryd.ntmps46
        go_wp2
        go_ret2
        exact ⟨ret_pair (by rw [HV.out]; rfl) HD.out.symm, rfl⟩

theorem ret_bool {p q : Bool} (h : p = q) : Ending.returned (.bool p) = .returned (.bool q) := by rw [h]

def idB (l : List UInt8) : Bool := l.all isDig && decide (l.length = 40)

theorem idB_no (l : List UInt8) (i : Nat) (hi : i < l.length) (h : isDig (l.getD i 0) = false) : idB l = false := by
  unfold idB; rw [not_all l i hi h]; rfl

theorem idB_yes (l : List UInt8) (hd : DigTo l l.length) (h : l.length = 40) : idB l = true := by
  unfold idB; rw [digTo_all l hd, h]; rfl

theorem idB_len (l : List UInt8) (h : ¬ l.length = 40) : idB l = false := by
  unfold idB; simp [h]

set_option maxHeartbeats 400000 in
theorem id_any (s : ByteArray) (w : World) (hs : s.size ≤ maxLen) :
    Calls Tryd.prog 23 #[.string s] w fun e w' => e = .returned (.bool (idB s.data.toList)) ∧ w' = w := by
  unfold maxLen at hs
  by_cases h40 : s.size = 40
  · have H40 := hidM h40
    have g1 : ((s.size : Int) != 40) = false := by rw [h40]; rfl
    have i1 : s.size ≤ 40 := by omega
    have i2 : 40 ≤ s.size := by omega
    clear h40
    go_enter Tryd.func23, Tryd.ntmps23
    go_wp2
    go_loop [3, 4, 5] (fun i _ _ => ∃ k : Nat, k ≤ s.size ∧ i = .int .i64 k ∧ DigTo s.data.toList k) (fun i _ _ => s.size - (intOf i).toNat)
    case atStart => exact ⟨0, Nat.zero_le _, rfl, fun i hi => by omega⟩
    case round =>
      obtain ⟨k, hk, rfl, hd⟩ := hrel
      have HD := hidM hd
      clear hd
      by_cases hlt : k < s.size
      · obtain ⟨c, hc⟩ : ∃ c, c = s[k] := ⟨_, rfl⟩
        have HC : Hid (s.data.toList.getD k 0 = c) := by unfold Hid; rw [getD_at s k hlt, hc]
        have hcc : (s[k].toNat : Int) = (c.toNat : Int) := by rw [hc]
        clear hc
        cases hdg : isDig c
        · have HB := hidM hdg
          go_wp2_with fail
          refine (hexValue_any c w).mono ?_
          rintro e w1 ⟨rfl, rfl⟩
          clear hcc
          go_wp2
          go_ret
          exact ⟨ret_bool (idB_no s.data.toList k (by simpa using hlt) (by rw [HC.out]; exact HB.out)).symm, rfl⟩
        · have HB := hidM hdg
          go_wp2_with fail
          refine (hexValue_any c w).mono ?_
          rintro e w1 ⟨rfl, rfl⟩
          clear hcc
          go_wp2
          go_round
          case rel =>
            refine ⟨k + 1, by omega, by go_num, fun i hi => ?_⟩
            by_cases e : i = k
            · subst e; rw [HC.out]; exact HB.out
            · exact HD.out i (by omega)
          case measure => simp [intOf]; omega
      · go_wp2
        go_ret
        exact ⟨ret_bool (idB_yes s.data.toList (by intro i hi; rw [len_size] at hi; exact HD.out i (by omega)) (by rw [len_size]; exact H40.out)).symm, rfl⟩
  · have g1 : ((s.size : Int) != 40) = true := by simp; omega
    have H40 := hidM h40
    clear h40
    go_enter Tryd.func23, Tryd.ntmps23
    go_wp2
    go_ret
    exact ⟨ret_bool (idB_len s.data.toList (by rw [len_size]; exact H40.out)).symm, rfl⟩

/-- append onto a slice of the call's own, as one step of a region that draws. -/
theorem step_append_own {P : Program} {ops : Array Oper} {o : Oper} {a : Act} {w : World} {K : Act → World → Prop} {Q : Exit → Act → World → Prop} {E : Prop}
    (hg : o.guard = none) (s x : Operand) (t : TypeId) (hop : o.op = Op.call { callee := Callee.builtin Builtin.append, args := #[s, x], argTypes := #[t, t] })
    (base : Nat) (e : TypeId) (i : TypeInfo) (z : Value) (size bytes : Nat) (h1 : P.underlying t = some (.slice e)) (h2 : P.info? e = some i) (h3 : i.zero = some z) (h4 : i.size = size) (h5 : i.bytes = bytes) (h6 : z.cells.size = size) (h7 : 0 < size)
    (v : Value) (n : Nat) (xs : List Value) (hs : a.eval s = v) (hown : w.ownsRow base e size v n xs)
    (ad : Addr) (m c : Nat) (news : List Value) (hx : a.eval x = .slice (some ad) m c) (hn : news.length = m * size) (hc : ∀ j u, news[j]? = some u → w.cell? (ad.add j) = some u) (h1c : ∀ u ∈ news, u.oneCell' = true)
    (b1 : n + m ≤ maxLen) (b2 : (n + m) * bytes ≤ 140737488355328) (b3 : base ≤ w.heap.size)
    (hK : ∀ v' w', w'.ownsRow base e size v' (n + m) (xs ++ news) → w.grownBy w' v.ownBlock → K (a.put o.dst v') w') :
    if Region.wanted o (yielded ops a.tmps) = true then Oper.wp P o a w K Q else E := by
  have hw : Region.wanted o (yielded ops a.tmps) = true := by simp [Region.wanted, hg]
  rw [if_pos hw]
  obtain ⟨v', w', hrun, r1, r2, _⟩ := run_append_own (P := P) w base t o.type e i z size bytes h1 h2 h3 h4 h5 h6 h7 v n xs hown ad m c news hn hc h1c b1 b2 b3
  unfold Oper.wp
  simp [execOp, hop, resolve, invoke, builtin, hs, hx, hrun, Result.andThen]
  exact hK v' w' r1 r2

theorem and15u8 (a : Nat) (ha : a < 256) : bits .and .u8 (a : Int) 15 = ((a % 16 : Nat) : Int) := by
  have := u8_and_nat a 15 ha (by omega)
  rw [nat_mask4] at this
  exact this

theorem cell_new_two (w : World) (u v u' v' : Value) (hu : u = u') (hv : v = v') : ∀ j x, [u', v'][j]? = some x → (w.alloc (.cells #[u, v] 5)).drew.cell? ((⟨w.heap.size, 0, none⟩ : Addr).add j) = some x := by
  subst hu; subst hv
  intro j x hj
  match j, hj with
  | 0, hj => simp at hj; subst hj; simp [Addr.add]
  | 1, hj => simp at hj; subst hj; simp [Addr.add]

theorem own_push2 {w1 : World} {B : Nat} {v' : Value} {P : List UInt8} {c d : UInt8} (h : w1.ownsRow B 5 1 v' (P.length + 2) (bytesV P ++ [.int .u8 (c.toNat : Int), .int .u8 (d.toNat : Int)])) : OwnB w1 B v' (P ++ [c, d]) := by
  unfold OwnB
  rw [bytesV_app]
  simpa [bytesV] using h

theorem below_push_drew {w wr w1 : World} {B : Nat} {v : Value} {P : List UInt8} {o : Obj} (hown : OwnB wr B v P) (hb : Below B w wr) (hB : B ≤ wr.heap.size) (hg : (wr.alloc o).drew.grownBy w1 v.ownBlock) : Below B w w1 :=
  (hb.alloc hB o).drew.grown hg (by simp; omega) (fun k hk => (World.ownsRow.lt hown k hk).1)

set_option maxHeartbeats 1600000 in
theorem hex_any (s : ByteArray) (w : World) (hs : s.size ≤ 1048576) :
    Calls Tryd.prog 18 #[.string s] w fun e w' => e = .returned (.string ⟨(hexL s.data.toList).toArray⟩) ∧ Below w.heap.size w w' := by
  obtain ⟨i0, hi, hz0, hz1, hz2⟩ := info_parts Tryd.info5
  go_enter Tryd.func18, Tryd.ntmps18
  go_wp2_with (at_make; refine wpList_make_own _ rfl _ _ 57 rfl w.heap.size 5 i0 (.int .u8 0) 1 Tryd.underlying57 hi hz0 hz1 .i64 .i64 _ (2 * s.size) rfl rfl ?c0 ?c1 ?c2 ?c3 ?_)
  case c0 => omega
  case c1 => rw [hz2]; omega
  case c2 => unfold maxLen; omega
  case c3 => exact Nat.le_refl _
  intro w1 hown hgrow
  have hbel : Below w.heap.size w w1 := (Below.refl _ _).grown hgrow (Nat.le_refl _) (by intro k hk; cases hk)
  have hown2 : OwnB w1 w.heap.size (.slice (some ⟨w.heap.size, 0, none⟩) 0 (2 * s.size)) [] := hown
  clear hown hgrow
  go_wp2
  go_loopw [3, 4] (fun v i wr => ∃ (k : Nat) (P : List UInt8), k ≤ s.size ∧ i = .int .i64 k ∧ P = hexL (s.data.toList.take k) ∧ OwnB wr w.heap.size v P ∧ Below w.heap.size w wr) (fun _ i _ => s.size - (intOf i).toNat)
  case atStart => exact ⟨0, [], Nat.zero_le _, rfl, rfl, hown2, hbel⟩
  case round =>
    obtain ⟨k, P, hk, rfl, hP, hownr, hbr⟩ := hrel
    clear hown2 hbel
    have HP := hidM hP
    have hB := hbr.size
    by_cases hlt : k < s.size
    · have hl : P.length = 2 * k := by rw [hP, hexL_len]; simp; omega
      have HL := hidM hl
      have hc := byte_lt s[k]
      obtain ⟨q1, hq1⟩ : ∃ q, q = s[k].toNat / 16 := ⟨_, rfl⟩
      obtain ⟨q2, hq2⟩ : ∃ q, q = s[k].toNat % 16 := ⟨_, rfl⟩
      have r1 : (s[k].toNat : Int) / 16 = (q1 : Int) := by omega
      have r2 : bits .and .u8 (s[k].toNat : Int) 15 = (q2 : Int) := by rw [hq2]; exact and15u8 _ hc
      have l1 : q1 < 16 := by omega
      have l2 : q2 < 16 := by omega
      have m1 : (q1 : Int) < 16 := by omega
      have m2 : (q2 : Int) < 16 := by omega
      have kk : (k : Int) < (s.size : Int) := by omega
      have HX : Hid (hexL (s.data.toList.take (k + 1)) = P ++ [digN q1, digN q2]) := by unfold Hid; rw [hexL_take s k hlt, ← hP, hq1, hq2]; rfl
      clear hq1 hq2 hP hl
      go_wp2
      go_region_law (refine step_append_own rfl _ _ 57 rfl w.heap.size 5 i0 (.int .u8 0) 1 1 Tryd.underlying57 hi hz0 hz1 hz2 rfl (by decide) u3 P.length (bytesV P) rfl (by exact (hownr.alloc _).drew) ⟨wr.heap.size, 0, none⟩ 2 2 [.int .u8 ((digN q1).toNat : Int), .int .u8 ((digN q2).toNat : Int)] (by rfl) rfl (by exact cell_new_two wr _ _ _ _ (val_int (congrArg (fun c : UInt8 => (c.toNat : Int)) (dig_at q1 l1))) (val_int (congrArg (fun c : UInt8 => (c.toNat : Int)) (dig_at q2 l2)))) (by intro u hu; simp at hu; rcases hu with rfl | rfl <;> rfl) (by have := HL.out; unfold maxLen; omega) (by have := HL.out; omega) (by simp; omega) ?_; intro v' w2 hown' hgrow; have HO := hidM (own_push2 hown'); have HB := hidM (below_push_drew hownr hbr hB hgrow); clear hown' hgrow hownr hbr hB)
      all_goals
        go_wp2
        go_roundw
        case rel => exact ⟨k + 1, _, by omega, by go_num, HX.out.symm, HO.out, HB.out⟩
        case measure => simp [intOf]; omega
    · have HF : Hid (hexL s.data.toList = P) := by unfold Hid; rw [hP, List.take_of_length_le (by simp; omega)]
      have hconv := conv_own hownr
      have HB := hidM hbr
      clear hownr hbr hB hP
      go_wp2
      go_ret
      exact ⟨by rw [HF.out]; rfl, HB.out⟩

theorem or4 (a b : Nat) (ha : a < 16) (hb : b < 16) : bits .or .u8 ((a : Int) * 16) (b : Int) = ((a * 16 + b : Nat) : Int) := by
  rw [show (a : Int) * 16 = ((a * 16 : Nat) : Int) by omega, u8_or_nat _ _ (by omega) (by omega), nat_join 4 _ _ (by omega) (by omega)]

set_option maxHeartbeats 1600000 in
theorem unhex_yes (s : ByteArray) (w : World) (hs : s.size ≤ 1048576) (hh : hexed s.data.toList = true) :
    Calls Tryd.prog 22 #[.string s] w fun e w' => e = .returned (.tuple #[.string ⟨(unhexL s.data.toList).toArray⟩, .bool true]) ∧ Below w.heap.size w w' := by
  obtain ⟨i0, hi, hz0, hz1, hz2⟩ := info_parts Tryd.info5
  unfold hexed at hh
  rw [Bool.and_eq_true] at hh
  have HD := hidM (all_digTo _ hh.1)
  have hev : s.size % 2 = 0 := by have := hh.2; rw [len_size] at this; exact of_decide_eq_true this
  clear hh
  obtain ⟨m, hm⟩ : ∃ m, s.size = 2 * m := ⟨s.size / 2, by omega⟩
  have HM := hidM hm
  have hm1 : s.size ≤ 2 * m := by omega
  have hm2 : 2 * m ≤ s.size := by omega
  have hz : ((s.size : Int) % 2 != 0) = false := by simp; omega
  clear hm hev
  go_enter Tryd.func22, Tryd.ntmps22
  go_wp2_with (at_make; refine wpList_make_own _ rfl _ _ 57 rfl w.heap.size 5 i0 (.int .u8 0) 1 Tryd.underlying57 hi hz0 hz1 .i64 .i64 _ m rfl rfl ?c0 ?c1 ?c2 ?c3 ?_)
  case c0 => omega
  case c1 => rw [hz2]; omega
  case c2 => unfold maxLen; omega
  case c3 => exact Nat.le_refl _
  intro w1 hown hgrow
  have hbel : Below w.heap.size w w1 := (Below.refl _ _).grown hgrow (Nat.le_refl _) (by intro k hk; cases hk)
  have hown2 : OwnB w1 w.heap.size (.slice (some ⟨w.heap.size, 0, none⟩) 0 m) [] := hown
  clear hown hgrow
  go_wp2
  go_loopw [4, 5, 6, 7, 8, 9] (fun v i _ _ _ _ wr => ∃ (k : Nat) (P : List UInt8), k ≤ m ∧ i = .int .i64 ((2 * k : Nat) : Int) ∧ P = unhexN s.data.toList k ∧ OwnB wr w.heap.size v P ∧ Below w.heap.size w wr) (fun _ i _ _ _ _ _ => s.size - (intOf i).toNat)
  case atStart => exact ⟨0, [], Nat.zero_le _, rfl, rfl, hown2, hbel⟩
  case round =>
    obtain ⟨k, P, hk, rfl, hP, hownr, hbr⟩ := hrel
    clear hown2 hbel
    have HP := hidM hP
    have hB := hbr.size
    by_cases hlt : k < m
    · have hl : P.length = k := by rw [hP, unhexN_len]
      have HL := hidM hl
      have k1 : 2 * k < s.size := by omega
      have k2 : 2 * k + 1 < s.size := by omega
      obtain ⟨c, hc⟩ : ∃ c, c = s[2 * k] := ⟨_, rfl⟩
      obtain ⟨d, hd⟩ : ∃ d, d = s[2 * k + 1] := ⟨_, rfl⟩
      have gc : s.data.toList.getD (2 * k) 0 = c := by rw [getD_at s _ k1, hc]
      have gd : s.data.toList.getD (2 * k + 1) 0 = d := by rw [getD_at s _ k2, hd]
      have dc : isDig c = true := by rw [← gc]; exact HD.out _ (by rw [len_size]; omega)
      have dd : isDig d = true := by rw [← gd]; exact HD.out _ (by rw [len_size]; omega)
      have HV : Hid (unhexN s.data.toList (k + 1) = P ++ [UInt8.ofNat (hexV c * 16 + hexV d)]) := by
        unfold Hid; rw [unhexN_succ, ← hP]; unfold pairV; rw [gc, gd]
      have rc : (s[2 * k].toNat : Int) = (c.toNat : Int) := by rw [hc]
      have rd : (s[2 * k + 1].toNat : Int) = (d.toNat : Int) := by rw [hd]
      clear hc hd gc gd hP hl
      have b1 := hexV_lt c
      have b2 := hexV_lt d
      go_wp2_with fail
      refine (hexValue_any c wr).mono ?_
      rintro e wr' ⟨rfl, rfl⟩
      go_wp2_with fail
      refine (hexValue_any d wr').mono ?_
      rintro e wr ⟨rfl, rfl⟩
      have HE : Hid (((hexV c * 16 + hexV d : Nat) : Int) = ((UInt8.ofNat (hexV c * 16 + hexV d)).toNat : Int)) := by unfold Hid; simp; omega
      have ho : bits .or .u8 ((hexV c : Int) * 16) (hexV d : Int) = ((hexV c * 16 + hexV d : Nat) : Int) := or4 _ _ b1 b2
      rw [HE.out] at ho
      generalize UInt8.ofNat (hexV c * 16 + hexV d) = x at *
      generalize hexV c = x1 at *
      generalize hexV d = x2 at *
      clear HE rc rd
      go_wp2_with (first
        | (at_builtin; refine wpList_append_own _ rfl _ _ 57 rfl w.heap.size 5 i0 (.int .u8 0) 1 1 Tryd.underlying57 hi hz0 hz1 hz2 rfl (by decide) _ _ _ rfl (hownr.alloc _) ⟨wr.heap.size, 0, none⟩ 1 1 [.int .u8 (x.toNat : Int)] ?d0 rfl ?d1 ?d2 ?d3 ?d4 ?d5 ?_))
      case d0 => rfl
      case d1 => exact cell_new_one wr _
      case d2 => intro u hu; simp at hu; subst hu; rfl
      case d3 => have := HL.out; unfold maxLen; omega
      case d4 => have := HL.out; omega
      case d5 => simp; omega
      intro v' w2 hown' hgrow _
      have HO := hidM (own_push hown')
      have HB := hidM (below_push hownr hbr hB hgrow)
      clear hown' hgrow hownr hbr hB ho dc dd
      go_wp2
      go_roundw
      case rel => exact ⟨k + 1, P ++ [x], by omega, by go_num, HV.out.symm, HO.out, HB.out⟩
      case measure => simp [intOf]; omega
    · have HF : Hid (unhexL s.data.toList = P) := by
        unfold Hid unhexL; rw [hP, len_size, show s.size / 2 = k by omega]
      have hge : ¬ 2 * (k : Int) < (s.size : Int) := by omega
      have hconv := conv_own hownr
      have HB := hidM hbr
      clear hownr hbr hB hP
      go_wp2
      go_ret2
      exact ⟨by rw [HF.out]; rfl, HB.out⟩

/-- A box of the cyclic sum. -/
structure CrcBox (w : World) (b c : Nat) : Prop where
  lt : c < 4294967296
  cell : w.cell? ⟨b, 0, none⟩ = some (.int .u32 (c : Int))
  fz : w.frozen? ⟨b, 0, none⟩ = false

theorem CrcBox.only {w w' : World} {b c d : Nat} (h : CrcBox w b c) (ho : Only d w w') (hne : b ≠ d) : CrcBox w' b c :=
  ⟨h.lt, (ho.cell (p := ⟨b, 0, none⟩) hne).trans h.cell, (ho.frozen (p := ⟨b, 0, none⟩) hne).trans h.fz⟩

theorem CrcBox.below {w w' : World} {b c B : Nat} (h : CrcBox w b c) (ho : Below B w w') (hlt : b < B) : CrcBox w' b c :=
  ⟨h.lt, (ho.cell (p := ⟨b, 0, none⟩) hlt).trans h.cell, (ho.frozen (p := ⟨b, 0, none⟩) hlt).trans h.fz⟩

theorem crcWrite_box (b c : Nat) (s : ByteArray) (w : World) (hs : s.size ≤ maxLen) (ht : Tab w) (h : CrcBox w b c) :
    Calls Tryd.prog 20 #[.pointer (some ⟨b, 0, none⟩), .string s] w fun e w' => e = .returned (.tuple #[]) ∧ Only b w w' ∧ CrcBox w' b (crcW c s.data.toList) := by
  refine (crcWrite_any b c s w hs h.lt ht h.cell h.fz).mono ?_
  rintro e w' ⟨rfl, rfl⟩
  refine ⟨rfl, (Only.refl b w).setCell 0 _, crcW_lt _ _ h.lt, World.cell?_setCell_same _ _ _ h.cell, ?_⟩
  rw [World.frozen?_setCell]; exact h.fz

theorem app_data (a x : ByteArray) : (a ++ x).data.toList = a.data.toList ++ x.data.toList := by simp

theorem drew_only (b n : Nat) (w : World) : Only b w (w.drewN n) := (Only.refl b w).drewN n

end Go.Proofs.YtbodjopdhciaeabDoor
