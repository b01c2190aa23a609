/-
  SHA-256: its mathematics; walks of turns, turnsShift, start256.
-/
import Derived.Test.YtbodjopdhciaeabDoorShaH
import Derived.BigQuiet
namespace Go.Proofs.YtbodjopdhciaeabDoor
open Go.RowKit

theorem quiet_one {P : Program} {f : FuncId} {args : Array Value} {w : World} {x : Nat} {v : Value}
    (h : Calls P f args (w.drewN x) fun e w' => e = .returned v ∧ w' = w.drewN x) : Calls P f args (w.drewN x) fun e w'' => e = .returned v ∧ ∃ m, w'' = w.drewN m :=
  h.mono fun _ _ ⟨he, hm⟩ => ⟨he, x, hm⟩
def sg3 (a b c x : Nat) : Nat := (rotl a x ^^^ rotl b x) ^^^ rotl c x
def sgs (a b s x : Nat) : Nat := (rotl a x ^^^ rotl b x) ^^^ (x / 2 ^ s)
theorem sg3_lt (a b c x : Nat) (ha : a < 32) (hb : b < 32) (hc : c < 32) (hx : x < 4294967296) : sg3 a b c x < 4294967296 := xor_lt (xor_lt (rotl_lt a x ha hx) (rotl_lt b x hb hx)) (rotl_lt c x hc hx)
theorem sgs_lt (a b s x : Nat) (ha : a < 32) (hb : b < 32) (hx : x < 4294967296) : sgs a b s x < 4294967296 := xor_lt (xor_lt (rotl_lt a x ha hx) (rotl_lt b x hb hx)) (Nat.lt_of_le_of_lt (Nat.div_le_self _ _) hx)
/-- The next word of a row. -/
def nxt2 (l : List Nat) (i : Nat) : Nat := add32 (add32 (add32 (l.getD (i - 16) 0) (sgs 25 14 3 (l.getD (i - 15) 0))) (l.getD (i - 7) 0)) (sgs 15 13 10 (l.getD (i - 2) 0))
def ext2 : Nat → List Nat → List Nat
  | 0, l => l
  | n + 1, l => ext2 n (l ++ [nxt2 l l.length])
def sched2 (p : List UInt8) : List Nat := ext2 48 (words16 p)
/-- The sixty-four constants; the eight first words. -/
def kL2 : List Nat := [1116352408, 1899447441, 3049323471, 3921009573, 961987163, 1508970993, 2453635748, 2870763221, 3624381080, 310598401, 607225278, 1426881987, 1925078388, 2162078206, 2614888103, 3248222580, 3835390401, 4022224774, 264347078, 604807628, 770255983, 1249150122, 1555081692, 1996064986, 2554220882, 2821834349, 2952996808, 3210313671, 3336571891, 3584528711, 113926993, 338241895, 666307205, 773529912, 1294757372, 1396182291, 1695183700, 1986661051, 2177026350, 2456956037, 2730485921, 2820302411, 3259730800, 3345764771, 3516065817, 3600352804, 4094571909, 275423344, 430227734, 506948616, 659060556, 883997877, 958139571, 1322822218, 1537002063, 1747873779, 1955562222, 2024104815, 2227730452, 2361852424, 2428436474, 2756734187, 3204031479, 3329325298]
def h2 : List Nat := [1779033703, 3144134277, 1013904242, 2773480762, 1359893119, 2600822924, 528734635, 1541459225]
structure S8 where
  a : Nat
  b : Nat
  c : Nat
  d : Nat
  e : Nat
  f : Nat
  g : Nat
  h : Nat
def tt2 (w : List Nat) (s : S8) (i : Nat) : Nat := add32 (add32 (add32 (add32 s.h (sg3 26 21 7 s.e)) ((s.e &&& s.f) ^^^ ((ones32 ^^^ s.e) &&& s.g))) (kL2.getD i 0)) (w.getD i 0)
def uu2 (s : S8) : Nat := add32 (sg3 30 19 10 s.a) (((s.a &&& s.b) ^^^ (s.a &&& s.c)) ^^^ (s.b &&& s.c))
def st2 (w : List Nat) (s : S8) (i : Nat) : S8 := ⟨add32 (tt2 w s i) (uu2 s), s.a, s.b, s.c, add32 s.d (tt2 w s i), s.e, s.f, s.g⟩
def rounds2 (w : List Nat) (s : S8) (n : Nat) : S8 := (List.range n).foldl (st2 w) s
theorem rounds2_succ (w : List Nat) (s : S8) (n : Nat) : rounds2 w s (n + 1) = st2 w (rounds2 w s n) n := by
  unfold rounds2; rw [List.range_succ, List.foldl_append]; rfl
def s8Of (h : List Nat) : S8 := ⟨h.getD 0 0, h.getD 1 0, h.getD 2 0, h.getD 3 0, h.getD 4 0, h.getD 5 0, h.getD 6 0, h.getD 7 0⟩
def mixL2 (h : List Nat) (p : List UInt8) : List Nat :=
  let r := rounds2 (sched2 p) (s8Of h) 64
  [add32 (h.getD 0 0) r.a, add32 (h.getD 1 0) r.b, add32 (h.getD 2 0) r.c, add32 (h.getD 3 0) r.d, add32 (h.getD 4 0) r.e, add32 (h.getD 5 0) r.f, add32 (h.getD 6 0) r.g, add32 (h.getD 7 0) r.h]
theorem ext2_succ (n : Nat) : ∀ l, ext2 (n + 1) l = ext2 n l ++ [nxt2 (ext2 n l) (ext2 n l).length] := by
  induction n with
  | zero => intro l; rfl
  | succ n ih => intro l; show ext2 (n + 1) (l ++ [nxt2 l l.length]) = _; rw [ih]; rfl
theorem ext2_len (n : Nat) : ∀ l, (ext2 n l).length = l.length + n := by
  induction n with
  | zero => intro l; rfl
  | succ n ih => intro l; show (ext2 n (l ++ [nxt2 l l.length])).length = _; rw [ih]; simp; omega
theorem snoc_bound {B : Nat} (l : List Nat) (x : Nat) (h : ∀ j, l.getD j 0 < B) (hx : x < B) (j : Nat) : (l ++ [x]).getD j 0 < B := by
  rw [List.getD_eq_getElem?_getD, List.getElem?_append]
  split
  · rw [← List.getD_eq_getElem?_getD]; exact h j
  · rcases hj : j - l.length with _ | m
    · exact hx
    · exact Nat.lt_of_le_of_lt (Nat.zero_le _) hx
theorem ext2_bd {B : Nat} (hB : ∀ l i, nxt2 l i < B) (n : Nat) : ∀ l : List Nat, (∀ j, l.getD j 0 < B) → ∀ j, (ext2 n l).getD j 0 < B := by
  induction n with
  | zero => intro l h; exact h
  | succ n ih => intro l h; exact ih _ (snoc_bound l _ h (hB _ _))
theorem nxt2_lt (l : List Nat) (i : Nat) : nxt2 l i < 4294967296 := by unfold nxt2; exact add32_lt _ _
theorem words16_bd (p : List UInt8) (j : Nat) : (words16 p).getD j 0 < 4294967296 := by
  have h := ext1_bound p 0 j
  unfold ext1 at h
  exact h
theorem ext2_bound (p : List UInt8) (n : Nat) : ∀ j, (ext2 n (words16 p)).getD j 0 < 4294967296 := ext2_bd nxt2_lt n _ (words16_bd p)
theorem kL2_bound (i : Nat) : kL2.getD i 0 < 4294967296 := by
  rcases Nat.lt_or_ge i 64 with h | h
  · have hall : kL2.all (fun k => decide (k < 4294967296)) = true := by decide +kernel
    rw [List.getD_eq_getElem?_getD, List.getElem?_eq_getElem (show i < kL2.length from h)]
    exact of_decide_eq_true (List.all_eq_true.1 hall _ (List.getElem_mem _))
  · rw [List.getD_eq_getElem?_getD, List.getElem?_eq_none (show kL2.length ≤ i from h)]; decide
theorem size39 : (Tryd.prog.info? 39).map (·.size) = some 8 := by kernel_rfl

set_option maxHeartbeats 400000 in
theorem turnsA (x : Nat) (w : World) (hx : x < 4294967296) :
    Calls Tryd.prog 54 #[.int .u32 x, .int .i64 6, .int .i64 11, .int .i64 25] w fun e w' => e = .returned (.int .u32 (sg3 26 21 7 x : Nat)) ∧ w' = w := by
  have l1 := rotl_lt 26 x (by decide) hx
  have l2 := rotl_lt 21 x (by decide) hx
  have l3 := rotl_lt 7 x (by decide) hx
  have HV : Hid (bits .xor .u32 (bits .xor .u32 (rotl 26 x : Int) (rotl 21 x : Int)) (rotl 7 x : Int) = ((sg3 26 21 7 x : Nat) : Int)) := by
    unfold Hid sg3; rw [u32_xor_nat _ _ l1 l2, u32_xor_nat _ _ (xor_lt l1 l2) l3]
  clear l1 l2 l3
  go_enter Tryd.func54, Tryd.ntmps54
  go_wp2_with fail
  refine (rotate_any x 26 (-6) w hx (by decide) (by decide)).mono ?_
  rintro _ w1 ⟨rfl, rfl⟩
  go_wp2_with fail
  refine (rotate_any x 21 (-11) w1 hx (by decide) (by decide)).mono ?_
  rintro _ w2 ⟨rfl, rfl⟩
  go_wp2_with fail
  refine (rotate_any x 7 (-25) w2 hx (by decide) (by decide)).mono ?_
  rintro _ w3 ⟨rfl, rfl⟩
  go_wp2
  go_ret
  exact ⟨ret_int HV.out, rfl⟩

set_option maxHeartbeats 400000 in
theorem turnsB (x : Nat) (w : World) (hx : x < 4294967296) :
    Calls Tryd.prog 54 #[.int .u32 x, .int .i64 2, .int .i64 13, .int .i64 22] w fun e w' => e = .returned (.int .u32 (sg3 30 19 10 x : Nat)) ∧ w' = w := by
  have l1 := rotl_lt 30 x (by decide) hx
  have l2 := rotl_lt 19 x (by decide) hx
  have l3 := rotl_lt 10 x (by decide) hx
  have HV : Hid (bits .xor .u32 (bits .xor .u32 (rotl 30 x : Int) (rotl 19 x : Int)) (rotl 10 x : Int) = ((sg3 30 19 10 x : Nat) : Int)) := by
    unfold Hid sg3; rw [u32_xor_nat _ _ l1 l2, u32_xor_nat _ _ (xor_lt l1 l2) l3]
  clear l1 l2 l3
  go_enter Tryd.func54, Tryd.ntmps54
  go_wp2_with fail
  refine (rotate_any x 30 (-2) w hx (by decide) (by decide)).mono ?_
  rintro _ w1 ⟨rfl, rfl⟩
  go_wp2_with fail
  refine (rotate_any x 19 (-13) w1 hx (by decide) (by decide)).mono ?_
  rintro _ w2 ⟨rfl, rfl⟩
  go_wp2_with fail
  refine (rotate_any x 10 (-22) w2 hx (by decide) (by decide)).mono ?_
  rintro _ w3 ⟨rfl, rfl⟩
  go_wp2
  go_ret
  exact ⟨ret_int HV.out, rfl⟩

set_option maxHeartbeats 2000000 in
theorem shiftA (x : Nat) (w : World) (hx : x < 4294967296) :
    Calls Tryd.prog 58 #[.int .u32 x, .int .i64 7, .int .i64 18, .int .i64 3] w fun e w' => e = .returned (.int .u32 (sgs 25 14 3 x : Nat)) ∧ ∃ n, w' = w.drewN n := by
  have l1 := rotl_lt 25 x (by decide) hx
  have l2 := rotl_lt 14 x (by decide) hx
  have l3 : x / 2 ^ 3 < 4294967296 := Nat.lt_of_le_of_lt (Nat.div_le_self x (2 ^ 3)) hx
  have e3 : (x : Int) / 8 = ((x / 2 ^ 3 : Nat) : Int) := by simp
  have HV : Hid (bits .xor .u32 (bits .xor .u32 (rotl 25 x : Int) (rotl 14 x : Int)) ((x : Int) / 8) = ((sgs 25 14 3 x : Nat) : Int)) := by
    unfold Hid sgs; rw [u32_xor_nat _ _ l1 l2, e3, u32_xor_nat _ _ (xor_lt l1 l2) l3]
  clear l1 l2 l3 e3
  have HR1 := hidM (fun v : World => rotate_any x 25 (-7) v hx (by decide) (by decide))
  have HR2 := hidM (fun v : World => rotate_any x 14 (-18) v hx (by decide) (by decide))
  have n1 : IntKind.i64.wrap (-7) = -7 := by decide
  have n2 : IntKind.i64.wrap (-18) = -18 := by decide
  go_enter Tryd.func58, Tryd.ntmps58
  go_wp2
  go_quiet (first
    | (go_at_call 52; with_reducible exact quiet_one (HR1.out _))
    | (go_at_call 52; with_reducible exact quiet_one (HR2.out _)))
  go_wp2
  go_ret
  exact ⟨ret_int HV.out, nq, rfl⟩

set_option maxHeartbeats 2000000 in
theorem shiftB (x : Nat) (w : World) (hx : x < 4294967296) :
    Calls Tryd.prog 58 #[.int .u32 x, .int .i64 17, .int .i64 19, .int .i64 10] w fun e w' => e = .returned (.int .u32 (sgs 15 13 10 x : Nat)) ∧ ∃ n, w' = w.drewN n := by
  have l1 := rotl_lt 15 x (by decide) hx
  have l2 := rotl_lt 13 x (by decide) hx
  have l3 : x / 2 ^ 10 < 4294967296 := Nat.lt_of_le_of_lt (Nat.div_le_self x (2 ^ 10)) hx
  have e3 : (x : Int) / 1024 = ((x / 2 ^ 10 : Nat) : Int) := by simp
  have HV : Hid (bits .xor .u32 (bits .xor .u32 (rotl 15 x : Int) (rotl 13 x : Int)) ((x : Int) / 1024) = ((sgs 15 13 10 x : Nat) : Int)) := by
    unfold Hid sgs; rw [u32_xor_nat _ _ l1 l2, e3, u32_xor_nat _ _ (xor_lt l1 l2) l3]
  clear l1 l2 l3 e3
  have HR1 := hidM (fun v : World => rotate_any x 15 (-17) v hx (by decide) (by decide))
  have HR2 := hidM (fun v : World => rotate_any x 13 (-19) v hx (by decide) (by decide))
  have n1 : IntKind.i64.wrap (-17) = -17 := by decide
  have n2 : IntKind.i64.wrap (-19) = -19 := by decide
  go_enter Tryd.func58, Tryd.ntmps58
  go_wp2
  go_quiet (first
    | (go_at_call 52; with_reducible exact quiet_one (HR1.out _))
    | (go_at_call 52; with_reducible exact quiet_one (HR2.out _)))
  go_wp2
  go_ret
  exact ⟨ret_int HV.out, nq, rfl⟩

set_option maxHeartbeats 400000 in
theorem start2_any (w : World) :
    Calls Tryd.prog 41 #[] w fun e w' => e = .returned (.agg (wordsV h2).toArray) ∧ Below w.heap.size w w' := by
  go_enter Tryd.func41, Tryd.ntmps41
  go_wp2
  exact bodyPost_ret (v := .agg (wordsV h2).toArray) (by simp [results, Tryd.results41, go_sem, wordsV, h2]) rfl ⟨rfl, (Below.refl _ _).alloc (Nat.le_refl _) _⟩
end Go.Proofs.YtbodjopdhciaeabDoor
