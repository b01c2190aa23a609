/-
  bitin in this seat: what is read.
-/
import Derived.Test.YtkckobhpanghiaaDoorHufX
import Derived.WalkKit
import Derived.WalkSpells
import Derived.WalkLawsBesides
import Derived.Laws.IdiomStrings
import Derived.Laws.BitsAllLaws
import Derived.Deep.QuietTactic
import Derived.BigQuiet
import Derived.Deep.RegionHeld3
import Derived.Deep.MidRow
import Derived.OpenShut
namespace Go.Proofs.YtkckobhpanghiaaDoor
open Go.RowKit

/-- A reader's box: the text, how many bits are taken. -/
def RBox (w : World) (b : Nat) (s : ByteArray) (t : Nat) : Prop := w.heap[b]? = some (.cells #[.string s, .int .i64 (t : Int)] 75 (0, 0))

set_option maxRecDepth 100000 in
theorem RBox.text {w : World} {b : Nat} {s : ByteArray} {t : Nat} (h : RBox w b s t) : w.cell? ⟨b, 0, none⟩ = some (.string s) := by
  rw [cell_of_row w b _ _ 75 (0, 0) h]; rfl

set_option maxRecDepth 100000 in
theorem RBox.taken {w : World} {b : Nat} {s : ByteArray} {t : Nat} (h : RBox w b s t) : w.cell? ⟨b, 1, none⟩ = some (.int .i64 (t : Int)) := by
  rw [cell_of_row w b _ _ 75 (0, 0) h]; rfl

set_option maxRecDepth 100000 in
theorem RBox.frozen {w : World} {b : Nat} {s : ByteArray} {t : Nat} (h : RBox w b s t) (j : Nat) : w.frozen? ⟨b, j, none⟩ = false := frozen_of_row w b j _ 75 h

set_option maxRecDepth 100000 in
theorem RBox.set {w : World} {b : Nat} {s : ByteArray} {t : Nat} (h : RBox w b s t) (m : Nat) : RBox (w.setCell ⟨b, 1, none⟩ (.int .i64 (m : Int))) b s m := by
  unfold RBox
  rw [heap_setCell_same w b _ _ 75 _ h]
  rfl

set_option maxRecDepth 100000 in
theorem RBox.same {w w' : World} {b : Nat} {s : ByteArray} {t : Nat} (h : RBox w b s t) (hh : w'.heap[b]? = w.heap[b]?) : RBox w' b s t := by
  unfold RBox; rw [hh]; exact h

set_option maxRecDepth 100000 in
theorem RBox.lt {w : World} {b : Nat} {s : ByteArray} {t : Nat} (h : RBox w b s t) : b < w.heap.size := by
  unfold RBox at h
  exact (Array.getElem?_eq_some_iff.1 h).1

set_option maxRecDepth 100000 in
theorem RBox.below {w w' : World} {b : Nat} {s : ByteArray} {t : Nat} (h : RBox w b s t) (hb : Below w.heap.size w w') : RBox w' b s t := h.same (hb.block b h.lt)

set_option maxHeartbeats 400000 in
set_option maxRecDepth 100000 in
theorem left_any (b : Nat) (s : ByteArray) (t l : Nat) (w : World) (h : RBox w b s t) (hs : s.size ≤ 100000000000) (hl : t + l = 8 * s.size) :
    Calls Tryd.prog 77 #[.pointer (some ⟨b, 0, none⟩)] w fun e w' => e = .returned (.int .i64 (l : Int)) ∧ ∃ n, w' = w.drewN n := by
  have h1 := h.text
  have h2 := h.taken
  have HL := hidM hl
  have ht : t ≤ 8 * s.size := by omega
  clear hl
  go_enter Tryd.func77, Tryd.ntmps77
  go_wp2
  go_quiet (fail)
  go_wp2
  go_ret
  have := HL.out
  exact ⟨ret_int (by omega), nq, rfl⟩

set_option maxHeartbeats 400000 in
set_option maxRecDepth 100000 in
theorem used_any (b : Nat) (s : ByteArray) (t : Nat) (w : World) (h : RBox w b s t) (ht : t ≤ 1000000000000) :
    Calls Tryd.prog 31 #[.pointer (some ⟨b, 0, none⟩)] w fun e w' => e = .returned (.int .i64 (((t + 7) / 8 : Nat) : Int)) ∧ w' = w := by
  have h2 := h.taken
  go_enter Tryd.func31, Tryd.ntmps31
  go_wp2
  go_ret
  exact ⟨ret_int (by omega), rfl⟩

set_option maxHeartbeats 400000 in
set_option maxRecDepth 100000 in
theorem newR_any (s : ByteArray) (w : World) (hs : s.size ≤ 100000000000) :
    Calls Tryd.prog 29 #[.string s, .int .i64 0] w fun e w' => e = .returned (.pointer (some ⟨w.heap.size, 0, none⟩)) ∧ RBox w' w.heap.size s 0 ∧ Below w.heap.size w w' := by
  go_enter Tryd.func29, Tryd.ntmps29
  go_wp2
  go_ret
  exact ⟨rfl, heap_alloc_new w _, (Below.refl _ _).alloc (Nat.le_refl _) _⟩

set_option maxRecDepth 100000 in
theorem peek_step (l : List UInt8) (a j : Nat) (h : a + j < l.length) (hj : 8 * j ≤ 56) :
    bits .or .u64 ((le ((l.drop a).take j) : Nat) : Int) ((l[a + j].toNat : Int) * 2 ^ (8 * j)) = ((le ((l.drop a).take (j + 1)) : Nat) : Int) := by
  have hlt := le_lt ((l.drop a).take j)
  rw [List.length_take, List.length_drop, Nat.min_eq_left (by omega), pow256] at hlt
  have hb := byte_lt l[a + j]
  have h56 : 2 ^ (8 * j) ≤ 2 ^ 56 := Nat.pow_le_pow_right (by decide) hj
  have e1 : ((l[a + j].toNat : Int) * 2 ^ (8 * j)) = ((l[a + j].toNat * 2 ^ (8 * j) : Nat) : Int) := by simp
  have h3 : l[a + j].toNat * 2 ^ (8 * j) < 256 * 2 ^ 56 := Nat.lt_of_lt_of_le (Nat.mul_lt_mul_of_pos_right hb (Nat.pow_pos (by decide))) (Nat.mul_le_mul_left _ h56)
  have e2 : (l.drop a)[j]'(by rw [List.length_drop]; omega) = l[a + j] := by simp
  rw [e1, u64_or_nat _ _ (Nat.lt_of_lt_of_le hlt (Nat.le_trans h56 (by decide))) (by simpa using h3), or_add _ _ _ hlt, le_snoc _ _ (by rw [List.length_drop]; omega), e2, pow256]

set_option maxRecDepth 100000 in
theorem u64_wrap (n : Int) : IntKind.u64.wrap n = n % 18446744073709551616 := by
  simp [IntKind.wrap, IntKind.bits, IntKind.signed]

set_option maxRecDepth 100000 in
theorem peek_stepB (s : ByteArray) (a j y z : Nat) (hy : y = a + j) (hz : z = 8 * j) (h : y < s.size) (h56 : z ≤ 56) :
    bits .or .u64 ((le ((s.data.toList.drop a).take j) : Nat) : Int) (IntKind.u64.wrap (IntKind.u64.wrap (s[y].toNat : Int) * 2 ^ z)) = ((le ((s.data.toList.drop a).take (j + 1)) : Nat) : Int) := by
  subst hy hz
  rw [← peek_step s.data.toList a j (by simpa using h) h56]
  have hb := byte_lt s[a + j]
  have h3 : s[a + j].toNat * 2 ^ (8 * j) < 256 * 2 ^ 56 := Nat.lt_of_lt_of_le (Nat.mul_lt_mul_of_pos_right hb (Nat.pow_pos (by decide))) (Nat.mul_le_mul_left _ (Nat.pow_le_pow_right (by decide) h56))
  have e1 : IntKind.u64.wrap (s[a + j].toNat : Int) = (s[a + j].toNat : Int) := by rw [u64_wrap]; omega
  have e2 : ((s[a + j].toNat : Int) * 2 ^ (8 * j)) = ((s[a + j].toNat * 2 ^ (8 * j) : Nat) : Int) := by simp
  rw [e1, e2, u64_wrap]
  have e3 : ((s[a + j].toNat * 2 ^ (8 * j) : Nat) : Int) % 18446744073709551616 = ((s[a + j].toNat * 2 ^ (8 * j) : Nat) : Int) := by
    generalize s[a + j].toNat * 2 ^ (8 * j) = q at *
    have : q < 18446744073709551616 := by simpa using h3
    omega
  rw [e3, ← e2]
  rfl

set_option maxRecDepth 100000 in
theorem peek_end (x g k : Nat) (hk : k ≤ 32) (hx : x < 18446744073709551616) (v : Nat) (hv : x / 2 ^ g % 2 ^ k = v) :
    bits .and .u64 ((x : Int) / 2 ^ g) (IntKind.u64.wrap (IntKind.u64.wrap (2 ^ k) - 1)) % 4294967296 = (v : Int) := by
  have hp : 2 ^ k ≤ 2 ^ 32 := Nat.pow_le_pow_right (by decide) hk
  have hp0 : 0 < 2 ^ k := Nat.pow_pos (by decide)
  have e1 : ((2 : Int) ^ k) = ((2 ^ k : Nat) : Int) := by simp
  have e2 : (x : Int) / 2 ^ g = ((x / 2 ^ g : Nat) : Int) := by simp
  have e3 : IntKind.u64.wrap (IntKind.u64.wrap ((2 ^ k : Nat) : Int) - 1) = ((2 ^ k - 1 : Nat) : Int) := by
    rw [u64_wrap, u64_wrap]
    generalize 2 ^ k = q at *
    have : q ≤ 4294967296 := by simpa using hp
    omega
  rw [e1, e2, e3, u64_and_nat _ _ (Nat.lt_of_le_of_lt (Nat.div_le_self _ _) hx) (by simp at hp; omega), and_mask, hv]
  have : v < 2 ^ k := by rw [← hv]; exact Nat.mod_lt _ hp0
  simp at hp
  omega

set_option maxRecDepth 100000 in
theorem peek_lt (l : List UInt8) (a j : Nat) (h : 8 * j ≤ 56) : le ((l.drop a).take j) < 18446744073709551616 := by
  have h1 := le_lt ((l.drop a).take j)
  refine Nat.lt_of_lt_of_le h1 ?_
  rw [pow256]
  exact Nat.le_trans (Nat.pow_le_pow_right (by decide) (by rw [List.length_take]; omega)) (show 2 ^ 56 ≤ _ by decide)

set_option maxHeartbeats 1000000 in
set_option maxRecDepth 100000 in
theorem peek_any (b : Nat) (s : ByteArray) (t l n k : Nat) (w : World) (h : RBox w b s t) (hs : s.size ≤ 100000000000) (hl : t + l = 8 * s.size) (hn : n ≤ 32) (hk : k = min n l) :
    Calls Tryd.prog 82 #[.pointer (some ⟨b, 0, none⟩), .int .i64 n] w fun e w' => e = .returned (.tuple #[.int .u32 (bitsN s.data.toList t k : Nat), .int .i64 (k : Int)]) ∧ ∃ n, w' = w.drewN n := by
  obtain ⟨a, ha⟩ : ∃ a, a = t / 8 := ⟨_, rfl⟩
  obtain ⟨g, hg⟩ : ∃ g, g = t % 8 := ⟨_, rfl⟩
  have g8 : g < 8 := by omega
  have HG : Hid (t = 8 * a + g) := by unfold Hid; omega
  have d1 : (t : Int) / 8 = (a : Int) := by omega
  have d2 : (t : Int) % 8 = (g : Int) := by omega
  have d3 : (t : Int).tmod 8 = (g : Int) := by rw [Int.tmod_eq_emod_of_nonneg (by omega)]; exact d2
  have d4 : (t : Int).tdiv 8 = (a : Int) := by rw [Int.tdiv_eq_ediv_of_nonneg (by omega)]; exact d1
  have h1 := h.text
  have h2 := h.taken
  have HL := hidM hl
  have k32 : k ≤ 32 := by omega
  have al : a ≤ s.size := by omega
  have HE : Hid (8 * a + g + k ≤ 8 * s.size) := by unfold Hid; omega
  have HKK : Hid ((k = l ∧ l < n) ∨ (k = n ∧ n ≤ l)) := by unfold Hid; omega
  clear ha hg hl hk
  go_enter Tryd.func82, Tryd.ntmps82
  go_wp2_with fail
  refine (left_any b s t l w h hs HL.out).mono ?_
  rintro e w1 ⟨rfl, m1, rfl⟩
  rcases HKK.out with ⟨rfl, hkn⟩ | ⟨rfl, hkn⟩
  all_goals
    clear HKK HL
    go_wp2
  all_goals
    go_quiet (fail)
    go_wp2
    go_loopw [6, 8, 9] (fun p x q wr => ∃ j y z m : Nat, 8 * j ≤ g + k + 7 ∧ y = a + j ∧ z = 8 * j ∧ p = .int .i64 (y : Int) ∧ q = .int .i64 (z : Int) ∧ x = .int .u64 ((le ((s.data.toList.drop a).take j) : Nat) : Int) ∧ wr = w.drewN m) (fun _ _ q _ => 64 - (intOf q).toNat)
    case atStart => exact ⟨0, a, 0, _, by omega, rfl, rfl, rfl, rfl, rfl, World.drewN_drewN ..⟩
    case round =>
      obtain ⟨j, y, z, m, hj, hy, hz, rfl, rfl, rfl, rfl⟩ := hrel
      have hE := HE.out
      have HY := hidM hy
      have HZ := hidM hz
      by_cases hlt : z < g + k
      · have c1 : y < s.size := by omega
        have c2 : z ≤ 56 := by omega
        have c3 : y < 200000000000 := by omega
        have HS := hidM (peek_stepB s a j y z hy hz c1 c2)
        generalize le ((s.data.toList.drop a).take j) = x at *
        clear hE hy hz
        go_wp2
        refine ⟨⟨j + 1, y + 1, z + 8, m, by have := HZ.out; omega, by have := HY.out; omega, by have := HZ.out; omega, rfl, rfl, val_int HS.out, rfl⟩, ?_⟩
        simp [intOf]; omega
      · have HP := hidM (peek_bits s.data.toList a g j k (by omega))
        clear hE hy hz
        go_wp2
        go_quiet (fail)
        go_wp2
        go_ret2
        refine ⟨ret_two (peek_end _ g k k32 (peek_lt s.data.toList a j (by omega)) _ (by rw [HG.out]; exact HP.out)) rfl, _, World.drewN_drewN ..⟩

set_option maxHeartbeats 1000000 in
set_option maxRecDepth 100000 in
theorem skip_yes (b : Nat) (s : ByteArray) (t l n : Nat) (w : World) (h : RBox w b s t) (hs : s.size ≤ 100000000000) (hl : t + l = 8 * s.size) (hn : n ≤ 32) (hk : n ≤ l) :
    Calls Tryd.prog 83 #[.pointer (some ⟨b, 0, none⟩), .int .i64 n] w fun e w' => e = .returned (.bool true) ∧ ∃ m, w' = (w.drewN m).setCell ⟨b, 1, none⟩ (.int .i64 ((t + n : Nat) : Int)) := by
  have h1 := h.text
  have h2 := h.taken
  have h3 := h.frozen 1
  have HL := hidM hl
  have tl : t ≤ 8 * s.size := by omega
  clear hl
  go_enter Tryd.func83, Tryd.ntmps83
  go_wp2_with fail
  refine (left_any b s t l w h hs HL.out).mono ?_
  rintro e w1 ⟨rfl, m1, rfl⟩
  go_wp2
  go_ret
  exact ⟨rfl, m1, rfl⟩

set_option maxHeartbeats 1000000 in
set_option maxRecDepth 100000 in
theorem skip_no (b : Nat) (s : ByteArray) (t l n : Nat) (w : World) (h : RBox w b s t) (hs : s.size ≤ 100000000000) (hl : t + l = 8 * s.size) (hn : n ≤ 32) (hk : l < n) :
    Calls Tryd.prog 83 #[.pointer (some ⟨b, 0, none⟩), .int .i64 n] w fun e w' => e = .returned (.bool false) ∧ ∃ m, w' = w.drewN m := by
  have h1 := h.text
  have h2 := h.taken
  have HL := hidM hl
  have tl : t ≤ 8 * s.size := by omega
  clear hl
  go_enter Tryd.func83, Tryd.ntmps83
  go_wp2_with fail
  refine (left_any b s t l w h hs HL.out).mono ?_
  rintro e w1 ⟨rfl, m1, rfl⟩
  go_wp2
  go_ret
  exact ⟨rfl, m1, rfl⟩

set_option maxRecDepth 100000 in
theorem RBox.drewN {w : World} {b : Nat} {s : ByteArray} {t : Nat} (h : RBox w b s t) (m : Nat) : RBox (w.drewN m) b s t := h

set_option maxRecDepth 100000 in
theorem RBox.put {w : World} {b : Nat} {s : ByteArray} {t : Nat} (h : RBox w b s t) (m n : Nat) : RBox ((w.drewN m).setCell ⟨b, 1, none⟩ (.int .i64 ((t + n : Nat) : Int))) b s (t + n) := (h.drewN m).set (t + n)

end Go.Proofs.YtkckobhpanghiaaDoor
