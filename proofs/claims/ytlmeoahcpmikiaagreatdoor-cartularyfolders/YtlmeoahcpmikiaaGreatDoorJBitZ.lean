/-
  Taken over from another program: BitX.
  Taken over from another program: HufY.
  Taken over from another program: BitY.
  Taken over from another program: BitZ.
-/
import Derived.Test.YtlmeoahcpmikiaaGreatDoorJHufX
import Derived.WalkKit
import Derived.WalkSpells
import Derived.WalkLawsBesides
import Derived.Laws.IdiomStrings
import Derived.Laws.BitsAllLaws
import Derived.Deep.QuietTactic
import Derived.BigQuiet
import Derived.Deep.RegionHeld3
import Derived.Deep.MidRow
import Derived.OpenShut
import Derived.OwnWalk
import Derived.BigRegion
import Derived.Laws.AppendOwnNone
import Derived.Deep.AppendLies
import Derived.Deep.RegionLaw
import Derived.Deep.DrawnRows
import Derived.Lib.AppendStr
namespace Go.Proofs.YtlmeoahcpmikiaaGreatDoor
open Go.RowKit
/-- A reader's box: the text, how many bits are taken. -/
def RBox (w : World) (b : Nat) (s : ByteArray) (t : Nat) : Prop := w.heap[b]? = some (.cells #[.string s, .int .i64 (t : Int)] 365 (0, 0))
set_option maxRecDepth 100000 in
theorem RBox.text {w : World} {b : Nat} {s : ByteArray} {t : Nat} (h : RBox w b s t) : w.cell? ⟨b, 0, none⟩ = some (.string s) := by
  rw [cell_of_row w b _ _ 365 (0, 0) h]; rfl
set_option maxRecDepth 100000 in
theorem RBox.taken {w : World} {b : Nat} {s : ByteArray} {t : Nat} (h : RBox w b s t) : w.cell? ⟨b, 1, none⟩ = some (.int .i64 (t : Int)) := by
  rw [cell_of_row w b _ _ 365 (0, 0) h]; rfl
set_option maxRecDepth 100000 in
theorem RBox.frozen {w : World} {b : Nat} {s : ByteArray} {t : Nat} (h : RBox w b s t) (j : Nat) : w.frozen? ⟨b, j, none⟩ = false := frozen_of_row w b j _ 365 h
set_option maxRecDepth 100000 in
theorem RBox.set {w : World} {b : Nat} {s : ByteArray} {t : Nat} (h : RBox w b s t) (m : Nat) : RBox (w.setCell ⟨b, 1, none⟩ (.int .i64 (m : Int))) b s m := by
  unfold RBox
  rw [heap_setCell_same w b _ _ 365 _ h]
  rfl
set_option maxRecDepth 100000 in
theorem RBox.same {w w' : World} {b : Nat} {s : ByteArray} {t : Nat} (h : RBox w b s t) (hh : w'.heap[b]? = w.heap[b]?) : RBox w' b s t := by
  unfold RBox; rw [hh]; exact h
set_option maxRecDepth 100000 in
theorem RBox.lt {w : World} {b : Nat} {s : ByteArray} {t : Nat} (h : RBox w b s t) : b < w.heap.size := by
  unfold RBox at h
  exact (Array.getElem?_eq_some_iff.1 h).1
set_option maxRecDepth 100000 in
theorem RBox.below {w w' : World} {b : Nat} {s : ByteArray} {t : Nat} (h : RBox w b s t) (hb : Below w.heap.size w w') : RBox w' b s t := h.same (hb.block b h.lt)
set_option maxHeartbeats 400000 in
set_option maxRecDepth 100000 in
theorem left_any (b : Nat) (s : ByteArray) (t l : Nat) (w : World) (h : RBox w b s t) (hs : s.size ≤ 100000000000) (hl : t + l = 8 * s.size) :
    Calls Tryz.prog 302 #[.pointer (some ⟨b, 0, none⟩)] w fun e w' => e = .returned (.int .i64 (l : Int)) ∧ ∃ n, w' = w.drewN n := by
  have h1 := h.text
  have h2 := h.taken
  have HL := hidM hl
  have ht : t ≤ 8 * s.size := by omega
  clear hl
  go_enter Tryz.func302, Tryz.ntmps302
  go_wp2
  go_quiet (fail)
  go_wp2
  go_ret
  have := HL.out
  exact ⟨ret_int (by omega), nq, rfl⟩
set_option maxHeartbeats 400000 in
set_option maxRecDepth 100000 in
theorem used_any (b : Nat) (s : ByteArray) (t : Nat) (w : World) (h : RBox w b s t) (ht : t ≤ 1000000000000) :
    Calls Tryz.prog 267 #[.pointer (some ⟨b, 0, none⟩)] w fun e w' => e = .returned (.int .i64 (((t + 7) / 8 : Nat) : Int)) ∧ w' = w := by
  have h2 := h.taken
  go_enter Tryz.func267, Tryz.ntmps267
  go_wp2
  go_ret
  exact ⟨ret_int (by omega), rfl⟩
set_option maxRecDepth 100000 in
theorem peek_step (l : List UInt8) (a j : Nat) (h : a + j < l.length) (hj : 8 * j ≤ 56) :
    bits .or .u64 ((le ((l.drop a).take j) : Nat) : Int) ((l[a + j].toNat : Int) * 2 ^ (8 * j)) = ((le ((l.drop a).take (j + 1)) : Nat) : Int) := by
  have hlt := le_lt ((l.drop a).take j)
  rw [List.length_take, List.length_drop, Nat.min_eq_left (by omega), pow256] at hlt
  have hb := byte_lt l[a + j]
  have h56 : 2 ^ (8 * j) ≤ 2 ^ 56 := Nat.pow_le_pow_right (by decide) hj
  have e1 : ((l[a + j].toNat : Int) * 2 ^ (8 * j)) = ((l[a + j].toNat * 2 ^ (8 * j) : Nat) : Int) := by simp
  have h3 : l[a + j].toNat * 2 ^ (8 * j) < 256 * 2 ^ 56 := Nat.lt_of_lt_of_le (Nat.mul_lt_mul_of_pos_right hb (Nat.pow_pos (by decide))) (Nat.mul_le_mul_left _ h56)
  have e2 : (l.drop a)[j]'(by rw [List.length_drop]; omega) = l[a + j] := by simp
  rw [e1, u64_or_nat _ _ (Nat.lt_of_lt_of_le hlt (Nat.le_trans h56 (by decide))) (by simpa using h3), or_add _ _ _ hlt, le_snoc _ _ (by rw [List.length_drop]; omega), e2, pow256]
set_option maxRecDepth 100000 in
theorem u64_wrap (n : Int) : IntKind.u64.wrap n = n % 18446744073709551616 := by
  simp [IntKind.wrap, IntKind.bits, IntKind.signed]
set_option maxRecDepth 100000 in
theorem peek_stepB (s : ByteArray) (a j y z : Nat) (hy : y = a + j) (hz : z = 8 * j) (h : y < s.size) (h56 : z ≤ 56) :
    bits .or .u64 ((le ((s.data.toList.drop a).take j) : Nat) : Int) (IntKind.u64.wrap (IntKind.u64.wrap (s[y].toNat : Int) * 2 ^ z)) = ((le ((s.data.toList.drop a).take (j + 1)) : Nat) : Int) := by
  subst hy hz
  rw [← peek_step s.data.toList a j (by simpa using h) h56]
  have hb := byte_lt s[a + j]
  have h3 : s[a + j].toNat * 2 ^ (8 * j) < 256 * 2 ^ 56 := Nat.lt_of_lt_of_le (Nat.mul_lt_mul_of_pos_right hb (Nat.pow_pos (by decide))) (Nat.mul_le_mul_left _ (Nat.pow_le_pow_right (by decide) h56))
  have e1 : IntKind.u64.wrap (s[a + j].toNat : Int) = (s[a + j].toNat : Int) := by rw [u64_wrap]; omega
  have e2 : ((s[a + j].toNat : Int) * 2 ^ (8 * j)) = ((s[a + j].toNat * 2 ^ (8 * j) : Nat) : Int) := by simp
  rw [e1, e2, u64_wrap]
  have e3 : ((s[a + j].toNat * 2 ^ (8 * j) : Nat) : Int) % 18446744073709551616 = ((s[a + j].toNat * 2 ^ (8 * j) : Nat) : Int) := by
    generalize s[a + j].toNat * 2 ^ (8 * j) = q at *
    have : q < 18446744073709551616 := by simpa using h3
    omega
  rw [e3, ← e2]
  rfl
set_option maxRecDepth 100000 in
theorem peek_end (x g k : Nat) (hk : k ≤ 32) (hx : x < 18446744073709551616) (v : Nat) (hv : x / 2 ^ g % 2 ^ k = v) :
    bits .and .u64 ((x : Int) / 2 ^ g) (IntKind.u64.wrap (IntKind.u64.wrap (2 ^ k) - 1)) % 4294967296 = (v : Int) := by
  have hp : 2 ^ k ≤ 2 ^ 32 := Nat.pow_le_pow_right (by decide) hk
  have hp0 : 0 < 2 ^ k := Nat.pow_pos (by decide)
  have e1 : ((2 : Int) ^ k) = ((2 ^ k : Nat) : Int) := by simp
  have e2 : (x : Int) / 2 ^ g = ((x / 2 ^ g : Nat) : Int) := by simp
  have e3 : IntKind.u64.wrap (IntKind.u64.wrap ((2 ^ k : Nat) : Int) - 1) = ((2 ^ k - 1 : Nat) : Int) := by
    rw [u64_wrap, u64_wrap]
    generalize 2 ^ k = q at *
    have : q ≤ 4294967296 := by simpa using hp
    omega
  rw [e1, e2, e3, u64_and_nat _ _ (Nat.lt_of_le_of_lt (Nat.div_le_self _ _) hx) (by simp at hp; omega), and_mask, hv]
  have : v < 2 ^ k := by rw [← hv]; exact Nat.mod_lt _ hp0
  simp at hp
  omega
set_option maxRecDepth 100000 in
theorem peek_lt (l : List UInt8) (a j : Nat) (h : 8 * j ≤ 56) : le ((l.drop a).take j) < 18446744073709551616 := by
  have h1 := le_lt ((l.drop a).take j)
  refine Nat.lt_of_lt_of_le h1 ?_
  rw [pow256]
  exact Nat.le_trans (Nat.pow_le_pow_right (by decide) (by rw [List.length_take]; omega)) (show 2 ^ 56 ≤ _ by decide)
set_option maxHeartbeats 1000000 in
set_option maxRecDepth 100000 in
theorem peek_any (b : Nat) (s : ByteArray) (t l n k : Nat) (w : World) (h : RBox w b s t) (hs : s.size ≤ 100000000000) (hl : t + l = 8 * s.size) (hn : n ≤ 32) (hk : k = min n l) :
    Calls Tryz.prog 307 #[.pointer (some ⟨b, 0, none⟩), .int .i64 n] w fun e w' => e = .returned (.tuple #[.int .u32 (bitsN s.data.toList t k : Nat), .int .i64 (k : Int)]) ∧ ∃ n, w' = w.drewN n := by
  obtain ⟨a, ha⟩ : ∃ a, a = t / 8 := ⟨_, rfl⟩
  obtain ⟨g, hg⟩ : ∃ g, g = t % 8 := ⟨_, rfl⟩
  have g8 : g < 8 := by omega
  have HG : Hid (t = 8 * a + g) := by unfold Hid; omega
  have d1 : (t : Int) / 8 = (a : Int) := by omega
  have d2 : (t : Int) % 8 = (g : Int) := by omega
  have d3 : (t : Int).tmod 8 = (g : Int) := by rw [Int.tmod_eq_emod_of_nonneg (by omega)]; exact d2
  have d4 : (t : Int).tdiv 8 = (a : Int) := by rw [Int.tdiv_eq_ediv_of_nonneg (by omega)]; exact d1
  have h1 := h.text
  have h2 := h.taken
  have HL := hidM hl
  have k32 : k ≤ 32 := by omega
  have al : a ≤ s.size := by omega
  have HE : Hid (8 * a + g + k ≤ 8 * s.size) := by unfold Hid; omega
  have HKK : Hid ((k = l ∧ l < n) ∨ (k = n ∧ n ≤ l)) := by unfold Hid; omega
  clear ha hg hl hk
  go_enter Tryz.func307, Tryz.ntmps307
  go_wp2_with fail
  refine (left_any b s t l w h hs HL.out).mono ?_
  rintro e w1 ⟨rfl, m1, rfl⟩
  rcases HKK.out with ⟨rfl, hkn⟩ | ⟨rfl, hkn⟩
  all_goals
    clear HKK HL
    go_wp2
  all_goals
    go_quiet (fail)
    go_wp2
    go_loopw [6, 8, 9] (fun p x q wr => ∃ j y z m : Nat, 8 * j ≤ g + k + 7 ∧ y = a + j ∧ z = 8 * j ∧ p = .int .i64 (y : Int) ∧ q = .int .i64 (z : Int) ∧ x = .int .u64 ((le ((s.data.toList.drop a).take j) : Nat) : Int) ∧ wr = w.drewN m) (fun _ _ q _ => 64 - (intOf q).toNat)
    case atStart => exact ⟨0, a, 0, _, by omega, rfl, rfl, rfl, rfl, rfl, World.drewN_drewN ..⟩
    case round =>
      obtain ⟨j, y, z, m, hj, hy, hz, rfl, rfl, rfl, rfl⟩ := hrel
      have hE := HE.out
      have HY := hidM hy
      have HZ := hidM hz
      by_cases hlt : z < g + k
      · have c1 : y < s.size := by omega
        have c2 : z ≤ 56 := by omega
        have c3 : y < 200000000000 := by omega
        have HS := hidM (peek_stepB s a j y z hy hz c1 c2)
        generalize le ((s.data.toList.drop a).take j) = x at *
        clear hE hy hz
        go_wp2
        refine ⟨⟨j + 1, y + 1, z + 8, m, by have := HZ.out; omega, by have := HY.out; omega, by have := HZ.out; omega, rfl, rfl, val_int HS.out, rfl⟩, ?_⟩
        simp [intOf]; omega
      · have HP := hidM (peek_bits s.data.toList a g j k (by omega))
        clear hE hy hz
        go_wp2
        go_quiet (fail)
        go_wp2
        go_ret2
        refine ⟨ret_two (peek_end _ g k k32 (peek_lt s.data.toList a j (by omega)) _ (by rw [HG.out]; exact HP.out)) rfl, _, World.drewN_drewN ..⟩
set_option maxHeartbeats 1000000 in
set_option maxRecDepth 100000 in
theorem skip_yes (b : Nat) (s : ByteArray) (t l n : Nat) (w : World) (h : RBox w b s t) (hs : s.size ≤ 100000000000) (hl : t + l = 8 * s.size) (hn : n ≤ 32) (hk : n ≤ l) :
    Calls Tryz.prog 308 #[.pointer (some ⟨b, 0, none⟩), .int .i64 n] w fun e w' => e = .returned (.bool true) ∧ ∃ m, w' = (w.drewN m).setCell ⟨b, 1, none⟩ (.int .i64 ((t + n : Nat) : Int)) := by
  have h1 := h.text
  have h2 := h.taken
  have h3 := h.frozen 1
  have HL := hidM hl
  have tl : t ≤ 8 * s.size := by omega
  clear hl
  go_enter Tryz.func308, Tryz.ntmps308
  go_wp2_with fail
  refine (left_any b s t l w h hs HL.out).mono ?_
  rintro e w1 ⟨rfl, m1, rfl⟩
  go_wp2
  go_ret
  exact ⟨rfl, m1, rfl⟩
set_option maxHeartbeats 1000000 in
set_option maxRecDepth 100000 in
theorem skip_no (b : Nat) (s : ByteArray) (t l n : Nat) (w : World) (h : RBox w b s t) (hs : s.size ≤ 100000000000) (hl : t + l = 8 * s.size) (hn : n ≤ 32) (hk : l < n) :
    Calls Tryz.prog 308 #[.pointer (some ⟨b, 0, none⟩), .int .i64 n] w fun e w' => e = .returned (.bool false) ∧ ∃ m, w' = w.drewN m := by
  have h1 := h.text
  have h2 := h.taken
  have HL := hidM hl
  have tl : t ≤ 8 * s.size := by omega
  clear hl
  go_enter Tryz.func308, Tryz.ntmps308
  go_wp2_with fail
  refine (left_any b s t l w h hs HL.out).mono ?_
  rintro e w1 ⟨rfl, m1, rfl⟩
  go_wp2
  go_ret
  exact ⟨rfl, m1, rfl⟩
set_option maxRecDepth 100000 in
theorem RBox.drewN {w : World} {b : Nat} {s : ByteArray} {t : Nat} (h : RBox w b s t) (m : Nat) : RBox (w.drewN m) b s t := h
set_option maxRecDepth 100000 in
theorem RBox.put {w : World} {b : Nat} {s : ByteArray} {t : Nat} (h : RBox w b s t) (m n : Nat) : RBox ((w.drewN m).setCell ⟨b, 1, none⟩ (.int .i64 ((t + n : Nat) : Int))) b s (t + n) := (h.drewN m).set (t + n)
end Go.Proofs.YtlmeoahcpmikiaaGreatDoor
namespace Go.Proofs.YtlmeoahcpmikiaaGreatDoor
open Go.RowKit
set_option maxHeartbeats 1000000 in
set_option maxRecDepth 100000 in
theorem code_in (b s : Nat) (ln : Nat → Nat) (L : Nat) (w : World) (h : Tab w b ln L) (hs : s < L) :
    Calls Tryz.prog 175 #[.pointer (some ⟨b, 0, none⟩), .int .i64 s] w fun e w' => e = .returned (.tuple #[.int .u32 (codeC ln L s : Int), .int .i64 (ln s : Int)]) ∧ Below w.heap.size w w' := by
  obtain ⟨g, gs, gc, gg, M, hg, hr, hM, e48, e49, e50⟩ := h
  obtain ⟨hc, hc1, hc2, hc3⟩ := hg.cod
  have c50 := hg.tab.cell 50 (by decide)
  rw [e50] at c50
  have d0 := hc1.cell (s * 2) (by omega)
  have d1 := hc1.cell (s * 2 + 1) (by omega)
  rw [(hc2 s hs).1] at d0
  rw [(hc2 s hs).2] at d1
  have HB : Hid (Below w.heap.size w (w.alloc (.cells #[.int .u32 (codeC ln L s : Int), .int .i64 (ln s : Int)] 310))) := (Below.refl _ _).alloc (Nat.le_refl _) _
  have b3 : (s : Int) < (L : Int) := by omega
  clear hg hr hM e48 e49 e50 hc1 hc2 hc3
  generalize codeC ln L s = c at *
  generalize ln s = n at *
  go_enter Tryz.func175, Tryz.ntmps175
  go_wp2
  go_quiet (fail)
  go_wp2
  go_ret2
  exact ⟨rfl, below_drewN HB.out _⟩
/-- What Read answers, of bits V of which l are there. -/
def ReadPost (ln : Nat → Nat) (L V l : Nat) (e : Ending) (d : Nat) : Prop :=
  (∃ s, s < L ∧ 0 < ln s ∧ ln s ≤ l ∧ rv V (ln s) = codeC ln L s ∧ e = .returned (.tuple #[.int .i64 (s : Int), .int .i64 0]) ∧ d = ln s) ∨
  (l < lgs ln L ∧ (∀ j, 1 ≤ j → j ≤ l → ¬ Hit ln L V j) ∧ e = .returned (.tuple #[.int .i64 0, .int .i64 6]) ∧ d = 0) ∨
  (lgs ln L ≤ l ∧ (∀ j, 1 ≤ j → j ≤ lgs ln L → ¬ Hit ln L V j) ∧ e = .returned (.tuple #[.int .i64 0, .int .i64 3]) ∧ d = 0)
set_option maxRecDepth 100000 in
theorem or_bit (y q : Nat) (hy : y < 32768) : bits .or .u32 ((y : Int) * 2) (bits .and .u32 (q : Int) 1) = ((2 * y + q % 2 : Nat) : Int) ∨ ¬ q < 4294967296 := by
  by_cases hq : q < 4294967296
  · left
    have e1 : (y : Int) * 2 = ((y * 2 : Nat) : Int) := by omega
    rw [show (1 : Int) = ((1 : Nat) : Int) from rfl, u32_and_nat _ _ hq (by decide), Nat.and_one_is_mod, e1, u32_or_nat _ _ (by omega) (by omega)]
    have h := or_add (q % 2) y 1 (by omega)
    rw [Nat.or_comm, show y * 2 ^ 1 = y * 2 from rfl] at h
    rw [h]
    omega
  · exact .inr hq
set_option maxRecDepth 100000 in
theorem sub_u32 (y F C : Nat) (hy : y ≤ 65536) (hF : F + C ≤ 32768) : ∃ K : Nat, IntKind.u32.wrap ((y : Int) - (F : Int)) = (K : Int) ∧ ((y : Int) - (F : Int)) % 4294967296 = (K : Int) ∧ (K < C ↔ F ≤ y ∧ y < F + C) ∧ (F ≤ y → K = y - F) := by
  by_cases h : F ≤ y
  · exact ⟨y - F, by rw [IntKind.wrap_u32']; omega, by omega, by omega, by omega⟩
  · exact ⟨4294967296 + y - F, by rw [IntKind.wrap_u32']; omega, by omega, by omega, by omega⟩
/-- A table of codes at b, whose blocks lie from B on, below E. -/
def TabS (w : World) (b : Nat) (ln : Nat → Nat) (L B E : Nat) : Prop :=
  ∃ g gs gc gg M, Given w b gs gc gg ln L M L g ∧ RowsAre g (fstC ln L) (fun n => cnt ln n L) (atC ln L) ∧ M = atC ln L 15 + cnt ln 15 L ∧ g 48 = .int .i64 (lgs ln L : Int) ∧ g 49 = .slice (some ⟨gs, 0, none⟩) M M ∧ g 50 = .slice (some ⟨gc, 0, none⟩) L L ∧ (B ≤ b ∧ b < E) ∧ (B ≤ gs ∧ gs < E) ∧ (B ≤ gc ∧ gc < E) ∧ (B ≤ gg ∧ gg < E)
set_option maxRecDepth 100000 in
theorem TabS.tab {w : World} {b : Nat} {ln : Nat → Nat} {L B E : Nat} (h : TabS w b ln L B E) : Tab w b ln L := by
  obtain ⟨g, gs, gc, gg, M, h1, h2, h3, h4, h5, h6, _⟩ := h
  exact ⟨g, gs, gc, gg, M, h1, h2, h3, h4, h5, h6⟩
set_option maxRecDepth 100000 in
theorem TabS.keep {w w' : World} {b : Nat} {ln : Nat → Nat} {L B E : Nat} (h : TabS w b ln L B E) (hk : ∀ k, B ≤ k → k < E → w'.heap[k]? = w.heap[k]?) : TabS w' b ln L B E := by
  obtain ⟨g, gs, gc, gg, M, hg, h2, h3, h4, h5, h6, q1, q2, q3, q4⟩ := h
  obtain ⟨hs, hs1, hs2⟩ := hg.sym
  obtain ⟨hc, hc1, hc2⟩ := hg.cod
  obtain ⟨hv, hv1, hv2⟩ := hg.giv
  exact ⟨g, gs, gc, gg, M, ⟨hg.tab.same (hk b q1.1 q1.2), ⟨hs, hs1.same (hk gs q2.1 q2.2), hs2⟩, ⟨hc, hc1.same (hk gc q3.1 q3.2), hc2⟩, ⟨hv, hv1.same (hk gg q4.1 q4.2), hv2⟩⟩, h2, h3, h4, h5, h6, q1, q2, q3, q4⟩
set_option maxRecDepth 100000 in
theorem TabS.only {w w' : World} {b rb : Nat} {ln : Nat → Nat} {L B E : Nat} (h : TabS w b ln L B E) (hr : rb < B ∨ E ≤ rb) (ho : Only rb w w') : TabS w' b ln L B E :=
  h.keep fun k h1 h2 => ho.block k (by omega)
set_option maxRecDepth 100000 in
theorem TabS.below {w w' : World} {b B' : Nat} {ln : Nat → Nat} {L B E : Nat} (h : TabS w b ln L B E) (hb : Below B' w w') (hE : E ≤ B') : TabS w' b ln L B E :=
  h.keep fun k _ h2 => hb.block k (by omega)
set_option maxRecDepth 100000 in
theorem tabS_mk {w : World} {b B gs gc gg M : Nat} {ln : Nat → Nat} {L : Nat} {g : Nat → Value} (hB : B ≤ b) (hg : Given w b gs gc gg ln L M L g) (h2 : RowsAre g (fstC ln L) (fun n => cnt ln n L) (atC ln L)) (h3 : M = atC ln L 15 + cnt ln 15 L) (h4 : g 48 = .int .i64 (lgs ln L : Int)) (h5 : g 49 = .slice (some ⟨gs, 0, none⟩) M M) (h6 : g 50 = .slice (some ⟨gc, 0, none⟩) L L)
    (q1 : b ≤ gs) (q2 : b ≤ gc) (q3 : b ≤ gg) : TabS w b ln L B w.heap.size := by
  obtain ⟨hs, hs1, _⟩ := hg.sym
  obtain ⟨hc, hc1, _⟩ := hg.cod
  obtain ⟨hv, hv1, _⟩ := hg.giv
  exact ⟨g, gs, gc, gg, M, hg, h2, h3, h4, h5, h6, ⟨hB, hg.tab.lt⟩, ⟨by omega, hs1.lt⟩, ⟨by omega, hc1.lt⟩, ⟨by omega, hv1.lt⟩⟩
/-- What New answers, from world w. -/
def NewPostS (f : Nat → Int) (len : Nat) (w : World) (e : Ending) (w' : World) : Prop :=
  (320 < len ∧ e = .returned (.tuple #[.pointer none, .int .i64 2])) ∨
  (len ≤ 320 ∧ (∃ i, i < len ∧ (f i < 0 ∨ 15 < f i)) ∧ e = .returned (.tuple #[.pointer none, .int .i64 1])) ∨
  (len ≤ 320 ∧ ∃ ln : Nat → Nat, (∀ i, i < len → f i = (ln i : Int)) ∧ (∀ i, ln i ≤ 15) ∧
    ((¬ Fit ln len ∧ e = .returned (.tuple #[.pointer none, .int .i64 4])) ∨ (Fit ln len ∧ ∃ b, e = .returned (.tuple #[.pointer (some ⟨b, 0, none⟩), .int .i64 0]) ∧ TabS w' b ln len w.heap.size w'.heap.size)))
set_option maxHeartbeats 2000000 in
set_option maxRecDepth 100000 in
theorem new_sep (a : Option Addr) (len cap : Nat) (f : Nat → Int) (w : World) (hf : IntsAt w a len .i64 f) :
    Calls Tryz.prog 221 #[.slice a len cap] w fun e w' => NewPostS f len w e w' ∧ Below w.heap.size w w' := by
  have hlen : len ≤ 9223372036854775807 := by have := hf.1; unfold maxLen at this; omega
  have HF := hidM hf
  clear hf
  by_cases h320 : 320 < len
  · go_enter Tryz.func221, Tryz.ntmps221
    go_wp2
    go_ret2
    exact ⟨.inl ⟨h320, rfl⟩, Below.refl _ _⟩
  · go_enter Tryz.func221, Tryz.ntmps221
    go_wp2
    go_loopw [5, 12] (fun _ i wr => ∃ k : Nat, k ≤ len ∧ i = .int .i64 k ∧ (∀ i, i < k → 0 ≤ f i ∧ f i ≤ 15) ∧ wr = w) (fun _ i _ => len - (intOf i).toNat)
    case atStart => exact ⟨0, Nat.zero_le _, rfl, fun i hi => by omega, rfl⟩
    case round =>
      obtain ⟨k, hk, rfl, hall, rfl⟩ := hrel
      have HA := hidM hall
      clear hall
      by_cases hlt : k < len
      · obtain ⟨bb, off, rfl, hc⟩ := HF.out.get k hlt
        generalize hfk : f k = c at *
        have HFK := hidM hfk
        clear hfk
        by_cases hbad : c < 0 ∨ 15 < c
        · have HBD := hidM hbad
          rcases hbad with hb | hb
          · go_wp2
            go_ret2
            exact ⟨.inr (.inl ⟨by omega, ⟨k, hlt, by rw [HFK.out]; exact HBD.out⟩, rfl⟩), Below.refl _ _⟩
          · go_wp2
            go_ret2
            exact ⟨.inr (.inl ⟨by omega, ⟨k, hlt, by rw [HFK.out]; exact HBD.out⟩, rfl⟩), Below.refl _ _⟩
        · have hb1 : ¬ c < 0 := by omega
          have hb2 : ¬ 15 < c := by omega
          have HA2 : Hid (∀ i, i < k + 1 → 0 ≤ f i ∧ f i ≤ 15) := fun i hi => by
            rcases Nat.lt_or_ge i k with h | h
            · exact HA.out i h
            · have : i = k := by omega
              subst this; rw [HFK.out]; omega
          clear hbad
          go_wp2
          go_roundw
          case rel => exact ⟨k + 1, by omega, by go_num, HA2.out, trivial⟩
          case measure => simp [intOf]; omega
      · have HK : Hid (k = len) := by unfold Hid; omega
        obtain ⟨ln, hln⟩ : ∃ ln : Nat → Nat, ln = fun i => if i < len then (f i).toNat else 0 := ⟨_, rfl⟩
        have HLN : Hid (∀ i, i < len → f i = (ln i : Int)) := fun i hi => by
          have := HA.out i (by rw [HK.out]; exact hi)
          rw [hln]; simp only [hi, if_true]; omega
        have H15 : Hid (∀ i, ln i ≤ 15) := fun i => by
          rw [hln]; simp only
          split
          · have := HA.out i (by rw [HK.out]; assumption)
            omega
          · omega
        have HFL : Hid (IntsAt wr a len .i64 (fun i => (ln i : Int))) := by
          refine ⟨HF.out.1, fun i => ?_, ?_⟩
          · have := H15.out i
            simp [Lit.wf, IntKind.min, IntKind.max, IntKind.signed, IntKind.bits]
            omega
          · rcases HF.out.2.2 with h0 | ⟨b', o', h1, h2⟩
            · exact .inl h0
            · exact .inr ⟨b', o', h1, fun i hi => by rw [h2 i hi, HLN.out i hi]⟩
        clear hln
        have HLT : Hid (0 < len → ∀ bb o, a = some ⟨bb, o, none⟩ → bb < wr.heap.size) := fun h0 bb o he => by
          obtain ⟨b', o', h1, h2⟩ := HF.out.get 0 h0
          rw [he] at h1
          simp only [Option.some.injEq, Addr.mk.injEq, and_true] at h1
          rw [h1.1]
          exact World.block_lt_of_cell? wr _ h2
        go_wp2_with fail
        refine (count_any wr.heap.size a len cap ln g0 _ (by omega) (HFL.out.low ((Below.refl _ _).alloc (Nat.le_refl _) _) HLT.out) H15.out (heap_alloc_new wr _) (fun h0 bb o he => by have := HLT.out h0 bb o he; omega) g0_rows rfl).mono ?_
        rintro e w1 ⟨rfl, ⟨g1, ht1, hr1, e48, e49, e50⟩, ho1⟩
        have HB1 : Hid (Below wr.heap.size wr w1) := ((Below.refl _ _).alloc (Nat.le_refl _) _).trans (ho1.below (Nat.le_refl _))
        have HT1 := hidM ht1
        have HR1 := hidM hr1
        have HE1 := hidM (And.intro e48 (And.intro e49 e50))
        clear ht1 hr1 e48 e49 e50 ho1
        go_wp2_with fail
        refine (fits_any wr.heap.size ln len g1 _ _ w1 HT1.out HR1.out (by omega) HE1.out.1 H15.out).mono ?_
        rintro e w2 ⟨rfl, hb2⟩
        have HB2 : Hid (Below wr.heap.size wr w2) := HB1.out.trans (hb2.mono HB1.out.size)
        have HT2 : Hid (TBox w2 wr.heap.size g1) := HT1.out.same (hb2.block _ HT1.out.lt)
        clear hb2
        by_cases hfit : kr ln len 15 = 32768 ∨ lgs ln len = 0 ∨ (lgs ln len = 1 ∧ cnt ln 1 len = 1)
        · have HFit : Hid (Fit ln len) := hfit
          rw [decide_eq_true hfit]
          clear hfit
          go_wp2_with fail
          refine (lay_any wr.heap.size ln len g1 w2 HT2.out HR1.out (by omega) HFit.out.le).mono ?_
          rintro e w3 ⟨rfl, ⟨g3, ht3, hr3, e48, e49, e50⟩, hb3⟩
          have HB3 : Hid (Below wr.heap.size wr w3) := HB2.out.trans hb3
          have HT3 := hidM ht3
          have HR3 := hidM hr3
          have H48 : Hid (g3 48 = .int .i64 (lgs ln len : Int)) := e48.trans HE1.out.1
          clear ht3 hr3 e48 e49 e50 hb3
          go_wp2_with fail
          refine (give_any wr.heap.size a len cap ln g3 w3 (by omega) (HFL.out.low HB3.out HLT.out) H15.out HT3.out HLT.out HR3.out HFit.out.le).mono ?_
          rintro e w4 ⟨rfl, ⟨g4, gs, gc, gg, M, hgv, hr4, hM, e48, e49, e50, q1, q2, _, q3⟩, hb4⟩
          have HB4 : Hid (Below wr.heap.size wr w4) := HB3.out.trans hb4
          have HTab : Hid (TabS w4 wr.heap.size ln len wr.heap.size w4.heap.size) := tabS_mk (Nat.le_refl _) hgv hr4 hM (e48.trans H48.out) e49 e50 (Nat.le_of_lt q1) (Nat.le_of_lt q2) (Nat.le_of_lt q3)
          clear hgv hr4 hM e48 e49 e50 hb4 q1 q2 q3
          go_wp2
          go_ret2
          exact ⟨.inr (.inr ⟨by omega, ln, HLN.out, H15.out, .inr ⟨HFit.out, _, rfl, HTab.out⟩⟩), HB4.out⟩
        · have HFit : Hid (¬ Fit ln len) := hfit
          rw [decide_eq_false hfit]
          clear hfit
          go_wp2
          go_ret2
          exact ⟨.inr (.inr ⟨by omega, ln, HLN.out, H15.out, .inl ⟨HFit.out, rfl⟩⟩), HB2.out⟩
set_option maxHeartbeats 2000000 in
set_option maxRecDepth 100000 in
theorem read_sep (b rb : Nat) (ln : Nat → Nat) (L : Nat) (X : ByteArray) (t l : Nat) (w : World) (hT : Tab w b ln L) (hTk : ∀ w', Only rb w w' → Tab w' b ln L) (hr : RBox w rb X t) (hX : X.size ≤ 1000000) (htl : t + l = 8 * X.size)
    (hL : L ≤ 320) (h15 : ∀ i, ln i ≤ 15) (hkr : kr ln L 15 ≤ 32768) :
    Calls Tryz.prog 287 #[.pointer (some ⟨b, 0, none⟩), .pointer (some ⟨rb, 0, none⟩)] w fun e w' => (∃ d, ReadPost ln L (le X.data.toList / 2 ^ t) l e d ∧ RBox w' rb X (t + d)) ∧ Only rb w w' := by
  obtain ⟨V, hV⟩ : ∃ V, V = le X.data.toList / 2 ^ t := ⟨_, rfl⟩
  rw [← hV]
  have HTK := hidM hTk
  have HR := hidM hr
  have HTL := hidM htl
  have H15 := hidM h15
  obtain ⟨g, gs, gc, gg, M, hg, hrows, hM, e48, e49, e50⟩ := hT
  have HGT := hidM hg.tab
  have HRW := hidM hrows
  have c48 := hg.tab.cell 48 (by decide)
  rw [e48] at c48
  have hlg : lgs ln L ≤ 15 := lgs_le ln 15 h15 L
  obtain ⟨lg, hlgd⟩ : ∃ lg, lg = lgs ln L := ⟨_, rfl⟩
  rw [← hlgd] at c48 hlg
  have HLG := hidM hlgd
  obtain ⟨kk, hkk⟩ : ∃ kk, kk = min lg l := ⟨_, rfl⟩
  have HKK := hidM hkk
  have hkl : kk ≤ l := by omega
  have hkg : kk ≤ lg := by omega
  have HBV : Hid (bitsN X.data.toList t kk = V % 2 ^ kk) := by unfold Hid bitsN; rw [hV]
  clear hTk hr htl h15 hg hrows hM e48 e49 e50 hlgd hkk hV
  go_enter Tryz.func287, Tryz.ntmps287
  go_wp2_with fail
  refine (peek_any rb X t l lg kk w HR.out (by omega) HTL.out (by omega) HKK.out).mono ?_
  rintro e w1 ⟨rfl, m1, rfl⟩
  rw [HBV.out]
  have HU1 : Hid (∀ n, n ≤ kk → rv (V % 2 ^ kk) n = rv V n) := fun n hn => rv_mod V kk n hn
  have HU2 : Hid (V % 2 ^ kk < 32768) := Nat.lt_of_lt_of_le (Nat.mod_lt _ (Nat.pow_pos (by decide))) (show 2 ^ kk ≤ 2 ^ 15 from Nat.pow_le_pow_right (by decide) (by omega))
  generalize V % 2 ^ kk = U at *
  go_wp2
  go_loopw [6, 8, 9, 10] (fun nx bg i _ wr => ∃ n q y m : Nat, n ≤ lg ∧ n ≤ kk ∧ i = .int .i64 ((n : Int) + 1) ∧ q = U / 2 ^ n ∧ nx = .int .u32 (q : Int) ∧ y = rv V n ∧ bg = .int .u32 (y : Int) ∧ (∀ j, 1 ≤ j → j ≤ n → ¬ Hit ln L V j) ∧ wr = w.drewN m) (fun _ _ i _ _ => 20 - (intOf i).toNat)
  case atStart => exact ⟨0, U, 0, m1, Nat.zero_le _, Nat.zero_le _, rfl, by simp, rfl, rfl, rfl, fun j h1 h2 => by omega, rfl⟩
  case round =>
    obtain ⟨n, q, y, m, hn, hnk, rfl, hq, rfl, hy, rfl, hno, rfl⟩ := hrel
    have HQ := hidM hq
    have HY := hidM hy
    have HNO := hidM hno
    have hq2 : q < 32768 := by rw [hq]; exact Nat.lt_of_le_of_lt (Nat.div_le_self _ _) HU2.out
    have hy2 : y < 32768 := by
      rw [hy]
      exact Nat.lt_of_lt_of_le (rv_lt V n) (show 2 ^ n ≤ 2 ^ 15 from Nat.pow_le_pow_right (by decide) (by omega))
    clear hq hy hno
    by_cases hend : n < lg
    · by_cases hav : n < kk
      · have HB1 : Hid (2 * y + q % 2 = rv V (n + 1)) := by
          unfold Hid
          have h1 := HU1.out (n + 1) (by omega)
          rw [rv, HU1.out n (by omega), ← HQ.out, ← HY.out] at h1
          exact h1
        obtain ⟨z, hz⟩ : ∃ z, z = 2 * y + q % 2 := ⟨_, rfl⟩
        have eor : bits .or .u32 ((y : Int) * 2) (bits .and .u32 (q : Int) 1) = (z : Int) := by
          rcases or_bit y q hy2 with h | h
          · rw [h, hz]
          · omega
        have HZ : Hid (z = rv V (n + 1)) := by unfold Hid; rw [hz, HB1.out]
        have hz2 : z ≤ 65536 := by omega
        obtain ⟨p, hp⟩ : ∃ p, p = n + 1 := ⟨_, rfl⟩
        have HP := hidM hp
        have ep : (n : Int) + 1 = (p : Int) := by omega
        have p15 : p ≤ 15 := by omega
        have hfc := code_fits ln L p p15 hkr
        have h2p : 2 ^ p ≤ 2 ^ 15 := Nat.pow_le_pow_right (by decide) p15
        have cF : w.cell? ⟨b, p * 3, none⟩ = some (.int .u32 ((fstC ln L p : Nat) : Int)) := (HGT.out.cell (p * 3) (by omega)).trans (by rw [(HRW.out p (by omega)).1])
        have cC : w.cell? ⟨b, p * 3 + 1, none⟩ = some (.int .u32 ((cnt ln p L : Nat) : Int)) := (HGT.out.cell (p * 3 + 1) (by omega)).trans (by rw [(HRW.out p (by omega)).2.1])
        obtain ⟨K, k1, k2, k3, k4⟩ := sub_u32 z (fstC ln L p) (cnt ln p L) hz2 (by simp at h2p; omega)
        have HHit : Hid (Hit ln L V p ↔ K < cnt ln p L) := by
          unfold Hid Hit
          rw [HP.out, ← HZ.out, ← HP.out]
          exact k3.symm
        have HK4 := hidM k4
        obtain ⟨F, hF⟩ : ∃ F, F = fstC ln L p := ⟨_, rfl⟩
        obtain ⟨C, hC⟩ : ∃ C, C = cnt ln p L := ⟨_, rfl⟩
        rw [← hF] at cF k1 k2 HK4 hfc
        rw [← hC] at cC HHit hfc
        have HF := hidM hF
        have HC := hidM hC
        simp only [ep]
        have b2 : (p : Int) < 16 := by omega
        have b3 : (p : Int) ≤ (lg : Int) := by omega
        have b4 : (p : Int) ≤ (kk : Int) := by omega
        clear hz hp hF hC k3 k4 ep
        by_cases hK : K < C
        · obtain ⟨s, hsL, hsn, hsp, hsi⟩ := cnt_at ln p K L (by rw [← HC.out]; exact hK)
          have hFz : F ≤ z ∧ z < F + C := by
            have h1 := HHit.out.2 hK
            unfold Hit at h1
            rw [HP.out, ← HZ.out, ← HP.out, ← HF.out, ← HC.out] at h1
            exact h1
          have hKz := HK4.out hFz.1
          have HPOST : Hid (0 < ln s ∧ ln s ≤ l ∧ rv V (ln s) = codeC ln L s ∧ p = ln s) := by
            refine ⟨by omega, by rw [hsn]; omega, ?_, hsn.symm⟩
            unfold codeC
            rw [hsn, if_neg (by omega), hsi, ← HF.out, HP.out, ← HZ.out]
            omega
          have HSY : Hid (0 < ln s ∧ atC ln L (ln s) + cnt ln (ln s) s = atC ln L p + K) := by unfold Hid; rw [hsn, hsi]; exact ⟨hsp, rfl⟩
          have hpl : p ≤ l := by omega
          clear hsn hsp hsi hFz hKz
          go_wp2_with fail
          refine (skip_yes rb X t l p (w.drewN m) (HR.out.drewN m) (by omega) HTL.out (by omega) hpl).mono ?_
          rintro e w2 ⟨rfl, m2, rfl⟩
          have HR2 := hidM ((HR.out.drewN m).put m2 p)
          have HO2 : Hid (Only rb w (((w.drewN m).drewN m2).setCell ⟨rb, 1, none⟩ (.int .i64 ((t + p : Nat) : Int)))) := (((Only.refl rb w).drewN m).drewN m2).setCell _ _
          generalize ((w.drewN m).drewN m2).setCell ⟨rb, 1, none⟩ (.int .i64 ((t + p : Nat) : Int)) = w2 at *
          have hT2 := HTK.out _ HO2.out
          obtain ⟨g', gs', gc', gg', M', hg', hrows', hM', _, e49', _⟩ := hT2
          obtain ⟨hs, hs1, hs2⟩ := hg'.sym
          have c49 := hg'.tab.cell 49 (by decide)
          rw [e49'] at c49
          have cA : w2.cell? ⟨b, p * 3 + 2, none⟩ = some (.int .u32 ((atC ln L p : Nat) : Int)) := (hg'.tab.cell (p * 3 + 2) (by omega)).trans (by rw [(hrows' p (by omega)).2.2])
          have hAM : atC ln L p + K < M' := by
            have h1 := at_total ln L p p15
            have := HC.out
            omega
          have hMl : M' ≤ 10000 := by
            have h1 := atC_le ln L 15
            have h3 := cnt_le ln 15 L
            omega
          have cS := hs1.cell (atC ln L p + K) hAM
          have hsv := hs2 s hsL HSY.out.1
          rw [HSY.out.2] at hsv
          rw [hsv] at cS
          obtain ⟨A, hA⟩ : ∃ A, A = atC ln L p := ⟨_, rfl⟩
          rw [← hA] at cA cS hAM
          obtain ⟨Y, hY⟩ : ∃ Y, Y = A + K := ⟨_, rfl⟩
          rw [← hY] at cS hAM
          have eY : (A : Int) + (K : Int) = (Y : Int) := by omega
          have b5 : (Y : Int) < (M' : Int) := by omega
          clear hg' hrows' hM' e49' hs1 hs2 hsv hA hY cF cC c48 k1 k2 eor
          go_wp2
          go_quiet (fail)
          go_wp2
          go_ret2
          exact ⟨⟨p, .inl ⟨s, hsL, HPOST.out.1, HPOST.out.2.1, HPOST.out.2.2.1, rfl, HPOST.out.2.2.2⟩, HR2.out.drewN _⟩, HO2.out.drewN _⟩
        · have HNO2 : Hid (∀ j, 1 ≤ j → j ≤ p → ¬ Hit ln L V j) := fun j h1 h2 => by
            rcases Nat.lt_or_ge j p with h | h
            · exact HNO.out j h1 (by have := HP.out; omega)
            · have : j = p := by omega
              subst this
              rw [HHit.out]; exact hK
          have HQ2 : Hid (q / 2 = U / 2 ^ p) := by unfold Hid; rw [HP.out, HQ.out, Nat.pow_succ, Nat.div_div_eq_div_mul]
          go_wp2
          refine ⟨⟨p, q / 2, z, m, by omega, by omega, rfl, HQ2.out, val_int (by omega), by rw [HZ.out, HP.out], rfl, HNO2.out, rfl⟩, ?_⟩
          simp [intOf]; omega
      · have HKL : Hid (kk = l ∧ l < lgs ln L ∧ n = l) := by have := HKK.out; have := HLG.out; unfold Hid; omega
        have b3 : (n : Int) + 1 ≤ (lg : Int) := by omega
        have b4 : (kk : Int) < (n : Int) + 1 := by omega
        go_wp2
        go_ret2
        exact ⟨⟨0, .inr (.inl ⟨HKL.out.2.1, fun j h1 h2 => HNO.out j h1 (by have := HKL.out; omega), rfl, rfl⟩), HR.out.drewN m⟩, (Only.refl rb w).drewN m⟩
    · have HKL : Hid (lgs ln L ≤ l ∧ n = lgs ln L) := by have := HKK.out; have := HLG.out; unfold Hid; omega
      have b3 : ¬ (n : Int) + 1 ≤ (lg : Int) := by omega
      go_wp2
      go_ret2
      exact ⟨⟨0, .inr (.inr ⟨HKL.out.1, fun j h1 h2 => HNO.out j h1 (by have := HKL.out; omega), rfl, rfl⟩), HR.out.drewN m⟩, (Only.refl rb w).drewN m⟩
end Go.Proofs.YtlmeoahcpmikiaaGreatDoor
namespace Go.Proofs.YtlmeoahcpmikiaaGreatDoor
open Go.RowKit
def nb : List Bool → Nat
  | [] => 0
  | b :: l => b.toNat + 2 * nb l
/-- One pass: neighbouring groups of s bits change places. -/
def swp (s m x : Nat) : Nat := (x / 2 ^ s &&& m) ||| ((x &&& m) * 2 ^ s % 4294967296)
set_option maxRecDepth 100000 in
theorem swp_lt (s m x : Nat) (hx : x < 4294967296) : swp s m x < 4294967296 :=
  Nat.or_lt_two_pow (n := 32) (Nat.lt_of_le_of_lt Nat.and_le_left (Nat.lt_of_le_of_lt (Nat.div_le_self _ _) hx)) (Nat.mod_lt _ (by decide))
set_option maxRecDepth 100000 in
theorem swp_bit (s m x i : Nat) (hi : i < 32) : (swp s m x).testBit i = ((x.testBit (i + s) && m.testBit i) || (decide (s ≤ i) && (x.testBit (i - s) && m.testBit (i - s)))) := by
  unfold swp
  rw [show (4294967296 : Nat) = 2 ^ 32 by decide, Nat.testBit_or, Nat.testBit_and, Nat.testBit_div_two_pow, Nat.testBit_mod_two_pow, Nat.testBit_mul_two_pow, Nat.testBit_and]
  simp [hi]
set_option maxRecDepth 100000 in
theorem swp_at (s m x i j : Nat) (hi : i < 32) (h : (m.testBit i = true ∧ j = i + s ∧ (decide (s ≤ i) && m.testBit (i - s)) = false) ∨ (m.testBit i = false ∧ s ≤ i ∧ m.testBit (i - s) = true ∧ j = i - s)) : (swp s m x).testBit i = x.testBit j := by
  rw [swp_bit s m x i hi]
  rcases h with ⟨h1, rfl, h2⟩ | ⟨h1, h2, h3, rfl⟩
  · rw [h1]
    cases hd : decide (s ≤ i) <;> rw [hd] at h2 <;> simp at h2 ⊢
    rw [h2]; simp
  · rw [h1, h3]; simp [h2]
def rev32 (x : Nat) : Nat := swp 16 65535 (swp 8 16711935 (swp 4 252645135 (swp 2 858993459 (swp 1 1431655765 x))))
/-- Where the bit i of a pass comes from. -/
def pj (s i : Nat) : Nat := if i / s % 2 = 0 then i + s else i - s
set_option maxRecDepth 100000 in
theorem pass (s m : Nat) (hm : ∀ i : Fin 32, (m.testBit i.val = true ∧ pj s i.val = i.val + s ∧ (decide (s ≤ i.val) && m.testBit (i.val - s)) = false) ∨ (m.testBit i.val = false ∧ s ≤ i.val ∧ m.testBit (i.val - s) = true ∧ pj s i.val = i.val - s)) (x i : Nat) (hi : i < 32) : (swp s m x).testBit i = x.testBit (pj s i) :=
  swp_at s m x i (pj s i) hi (hm ⟨i, hi⟩)
set_option maxRecDepth 100000 in
theorem pj_all : ∀ i : Fin 32, pj 16 i.val < 32 ∧ pj 8 (pj 16 i.val) < 32 ∧ pj 4 (pj 8 (pj 16 i.val)) < 32 ∧ pj 2 (pj 4 (pj 8 (pj 16 i.val))) < 32 ∧ pj 1 (pj 2 (pj 4 (pj 8 (pj 16 i.val)))) = 31 - i.val := by decide
set_option maxRecDepth 100000 in
theorem rev32_bit (x i : Nat) (hi : i < 32) : (rev32 x).testBit i = x.testBit (31 - i) := by
  obtain ⟨h1, h2, h3, h4, h5⟩ := pj_all ⟨i, hi⟩
  simp only at h1 h2 h3 h4 h5
  unfold rev32
  rw [pass 16 65535 (by decide) _ i hi, pass 8 16711935 (by decide) _ _ h1, pass 4 252645135 (by decide) _ _ h2, pass 2 858993459 (by decide) _ _ h3, pass 1 1431655765 (by decide) _ _ h4, h5]
set_option maxRecDepth 100000 in
theorem rev32_lt (x : Nat) (hx : x < 4294967296) : rev32 x < 4294967296 := swp_lt _ _ _ (swp_lt _ _ _ (swp_lt _ _ _ (swp_lt _ _ _ (swp_lt _ _ _ hx))))
/-- Bytes as the cells of a row. -/
def bytesV (l : List UInt8) : List Value := l.map fun c => .int .u8 (c.toNat : Int)
set_option maxRecDepth 100000 in
theorem bytesV_app (l m : List UInt8) : bytesV (l ++ m) = bytesV l ++ bytesV m := by simp [bytesV]
set_option maxRecDepth 100000 in
theorem bytesV_at (l : List UInt8) (j : Nat) (h : j < l.length) : (bytesV l)[j]? = some (.int .u8 (l[j].toNat : Int)) := by simp [bytesV, h]
/-- The value v owns just the bytes l, in memory from 'base' on. -/
def OwnB (w : World) (base : Nat) (v : Value) (l : List UInt8) : Prop := w.ownsRow base 5 1 v l.length (bytesV l)
set_option maxRecDepth 100000 in
theorem conv_own {w : World} {base : Nat} {v : Value} {l : List UInt8} (h : OwnB w base v l) :
    (convert 74 9 v).run Tryz.prog w = .ok (.string ⟨l.toArray⟩) w := by
  rcases h.2 with ⟨rfl, hn⟩ | ⟨g, cap, cur, rfl, hb, hg, hnc, hcm, hcs, htake⟩
  · have : l = [] := List.eq_nil_of_length_eq_zero hn
    subst this
    rw [run_convert_bytes_string w 74 9 5 none 0 0 Tryz.underlying74 Tryz.underlying5 Tryz.underlying9]
    rfl
  · refine run_convert_bytes_back w 74 9 5 _ cap l Tryz.underlying74 Tryz.underlying5 Tryz.underlying9 ?_
    intro j hj
    have := World.ownsRow.cells (g := g) h rfl j _ (bytesV_at l j hj)
    exact this
set_option maxRecDepth 100000 in
theorem byte_of (x : Nat) : (UInt8.ofNat (x % 256)).toNat = x % 256 := by simp
set_option maxRecDepth 100000 in
theorem Tryz.info5 : (Tryz.prog.info? 5).map (fun i => (i.zero, i.size, i.bytes)) = some (some (.int .u8 0), 1, 1) := by kernel_rfl
/-- A writer's box at b: its bytes F, the bits of the begun byte q, how many h. -/
structure WBox (w : World) (b : Nat) (v : Value) (F : List UInt8) (q h : Nat) : Prop where
  box : w.heap[b]? = some (.cells #[v, .int .u64 (q : Int), .int .i64 (h : Int)] 230 (0, 0))
  own : OwnB w (b + 1) v F
set_option maxRecDepth 100000 in
theorem WBox.c0 {w : World} {b : Nat} {v : Value} {F : List UInt8} {q h : Nat} (x : WBox w b v F q h) : w.cell? ⟨b, 0, none⟩ = some v := by rw [cell_of_row w b _ _ 230 (0, 0) x.box]; rfl
set_option maxRecDepth 100000 in
theorem WBox.c1 {w : World} {b : Nat} {v : Value} {F : List UInt8} {q h : Nat} (x : WBox w b v F q h) : w.cell? ⟨b, 1, none⟩ = some (.int .u64 (q : Int)) := by rw [cell_of_row w b _ _ 230 (0, 0) x.box]; rfl
set_option maxRecDepth 100000 in
theorem WBox.c2 {w : World} {b : Nat} {v : Value} {F : List UInt8} {q h : Nat} (x : WBox w b v F q h) : w.cell? ⟨b, 2, none⟩ = some (.int .i64 (h : Int)) := by rw [cell_of_row w b _ _ 230 (0, 0) x.box]; rfl
set_option maxRecDepth 100000 in
theorem WBox.fz {w : World} {b : Nat} {v : Value} {F : List UInt8} {q h : Nat} (x : WBox w b v F q h) (j : Nat) : w.frozen? ⟨b, j, none⟩ = false := frozen_of_row w b j _ 230 x.box
set_option maxRecDepth 100000 in
theorem WBox.lt {w : World} {b : Nat} {v : Value} {F : List UInt8} {q h : Nat} (x : WBox w b v F q h) : b < w.heap.size := (Array.getElem?_eq_some_iff.1 x.box).1
set_option maxRecDepth 100000 in
theorem WBox.drewN {w : World} {b : Nat} {v : Value} {F : List UInt8} {q h : Nat} (x : WBox w b v F q h) (m : Nat) : WBox (w.drewN m) b v F q h := ⟨x.box, x.own⟩
set_option maxRecDepth 100000 in
theorem WBox.set1 {w : World} {b : Nat} {v : Value} {F : List UInt8} {q h : Nat} (x : WBox w b v F q h) (r : Nat) : WBox (w.setCell ⟨b, 1, none⟩ (.int .u64 (r : Int))) b v F r h :=
  ⟨by rw [heap_setCell_same w b _ _ 230 _ x.box]; rfl, ownsRow_setCell_below x.own (Nat.lt_succ_self b) _⟩
set_option maxRecDepth 100000 in
theorem WBox.set2 {w : World} {b : Nat} {v : Value} {F : List UInt8} {q h : Nat} (x : WBox w b v F q h) (r : Nat) : WBox (w.setCell ⟨b, 2, none⟩ (.int .i64 (r : Int))) b v F q r :=
  ⟨by rw [heap_setCell_same w b _ _ 230 _ x.box]; rfl, ownsRow_setCell_below x.own (Nat.lt_succ_self b) _⟩
set_option maxRecDepth 100000 in
theorem WBox.below {w w' : World} {b : Nat} {v : Value} {F : List UInt8} {q h : Nat} (x : WBox w b v F q h) (hb : Below w.heap.size w w') : WBox w' b v F q h := by
  refine ⟨by rw [hb.block b x.lt]; exact x.box, x.own.1, ?_⟩
  rcases x.own.2 with h0 | ⟨g, cap, cur, hv, hg, hc, hr⟩
  · exact .inl h0
  · exact .inr ⟨g, cap, cur, hv, hg, by rw [hb.block g ((Array.getElem?_eq_some_iff.1 hc).1)]; exact hc, hr⟩
/-- What a writer has: its number and how many bits it has. -/
def WNum (F : List UInt8) (q : Nat) : Nat := le F + 256 ^ F.length * q
set_option maxRecDepth 100000 in
theorem wnum_step (F : List UInt8) (q : Nat) : WNum (F ++ [UInt8.ofNat (q % 256)]) (q / 256) = WNum F q := by
  unfold WNum
  rw [le_app, List.length_append, List.length_singleton, Nat.pow_succ]
  have e : le [UInt8.ofNat (q % 256)] = q % 256 := by simp [le]
  rw [e, Nat.mul_assoc, Nat.add_assoc, ← Nat.mul_add]
  congr 2
  exact Nat.mod_add_div q 256
def heldOf (w : World) (b : Nat) : Nat := match w.cell? ⟨b, 2, none⟩ with
  | some v => (intOf v).toNat
  | none => 0
set_option maxRecDepth 100000 in
theorem WBox.held {w : World} {b : Nat} {v : Value} {F : List UInt8} {q h : Nat} (x : WBox w b v F q h) : heldOf w b = h := by
  unfold heldOf; rw [x.c2]; simp [intOf]
set_option maxRecDepth 100000 in
theorem low_bits (x n : Nat) (hn : n ≤ 32) (hx : x < 4294967296) : bits .and .u64 (x : Int) (IntKind.u64.wrap (IntKind.u64.wrap (2 ^ n) - 1)) = ((x % 2 ^ n : Nat) : Int) := by
  have hp : 2 ^ n ≤ 2 ^ 32 := Nat.pow_le_pow_right (by decide) hn
  have hp0 : 0 < 2 ^ n := Nat.pow_pos (by decide)
  have e1 : ((2 : Int) ^ n) = ((2 ^ n : Nat) : Int) := by simp
  have e3 : IntKind.u64.wrap (IntKind.u64.wrap ((2 ^ n : Nat) : Int) - 1) = ((2 ^ n - 1 : Nat) : Int) := by
    rw [u64_wrap, u64_wrap]
    generalize 2 ^ n = q at *
    have : q ≤ 4294967296 := by simpa using hp
    omega
  rw [e1, e3, u64_and_nat _ _ (by omega) (by simp at hp; omega), and_mask]
set_option maxRecDepth 100000 in
theorem put_bits (q y h : Nat) (hq : q < 2 ^ h) (hh : h < 8) (hy : y < 4294967296) : bits .or .u64 (q : Int) (IntKind.u64.wrap ((y : Int) * 2 ^ h)) = ((q + 2 ^ h * y : Nat) : Int) := by
  have h1 : 2 ^ h ≤ 2 ^ 7 := Nat.pow_le_pow_right (by decide) (by omega)
  have e1 : ((y : Int) * 2 ^ h) = ((y * 2 ^ h : Nat) : Int) := by simp
  have h2 : y * 2 ^ h < 4294967296 * 2 ^ 7 := Nat.lt_of_lt_of_le (Nat.mul_lt_mul_of_pos_right hy (Nat.pow_pos (by decide))) (Nat.mul_le_mul_left _ h1)
  have e2 : IntKind.u64.wrap ((y * 2 ^ h : Nat) : Int) = ((y * 2 ^ h : Nat) : Int) := by
    rw [u64_wrap]
    generalize y * 2 ^ h = z at *
    simp at h2
    omega
  rw [e1, e2, u64_or_nat _ _ (by simp at h1; omega) (by simp at h2; omega), or_add _ _ _ hq]
set_option maxRecDepth 100000 in
theorem far_block {wr w1 : World} {b : Nat} {ob : Obj} {row : Option Nat} (hg : (wr.drew.alloc ob).grownBy w1 row) (hb : b < wr.heap.size) (hne : some b ≠ row) : w1.heap[b]? = wr.heap[b]? := by
  rw [hg.block b (by simp; omega) hne]
  exact Below.heap_alloc wr.drew ob b hb
set_option maxRecDepth 100000 in
theorem WBox.push {w w1 : World} {b g cap : Nat} {v : Value} {F : List UInt8} {q h : Nat} {ob : Obj} (x : WBox w b v F q h) (hg : (w.drew.alloc ob).grownBy w1 v.ownBlock)
    (hown : w1.ownsRow (b + 1) 5 1 (.slice (some ⟨g, 0, none⟩) (F.length + 1) cap) (F.length + 1) (bytesV F ++ [.int .u8 ((q : Int) % 256)])) :
    WBox (w1.setCell ⟨b, 0, none⟩ (.slice (some ⟨g, 0, none⟩) (F.length + 1) cap)) b (.slice (some ⟨g, 0, none⟩) (F.length + 1) cap) (F ++ [UInt8.ofNat (q % 256)]) q h := by
  have hne : some b ≠ v.ownBlock := fun he => by have := (World.ownsRow.lt x.own b he.symm).1; omega
  have hb := (far_block hg x.lt hne).trans x.box
  refine ⟨by rw [heap_setCell_same w1 b _ _ 230 _ hb]; rfl, ?_⟩
  refine ownsRow_setCell_below ?_ (Nat.lt_succ_self b) _
  have e : [Value.int .u8 ((q : Int) % 256)] = bytesV [UInt8.ofNat (q % 256)] := by
    simp only [bytesV, List.map_cons, List.map_nil]
    rw [val_int (show (q : Int) % 256 = ((UInt8.ofNat (q % 256)).toNat : Int) by rw [byte_of]; omega)]
  rw [e, ← bytesV_app] at hown
  rw [List.length_append, List.length_singleton]
  exact hown
set_option maxRecDepth 100000 in
theorem WBox.pushBelow {w w0 w1 : World} {b g cap : Nat} {v : Value} {F : List UInt8} {q h : Nat} {ob : Obj} (x : WBox w b v F q h) (hg : (w.drew.alloc ob).grownBy w1 v.ownBlock) (hb : Below b w0 w) : Below b w0 (w1.setCell ⟨b, 0, none⟩ (.slice (some ⟨g, 0, none⟩) (F.length + 1) cap)) := by
  refine below_set ?_ (Nat.le_refl b)
  have h1 : Below b w0 (w.drew.alloc ob) := (below_drewN hb 1).alloc (by have := x.lt; simp; omega) ob
  exact h1.grown hg (by have := x.lt; simp; omega) (fun k hk => by have := (World.ownsRow.lt x.own k hk).1; omega)
set_option maxRecDepth 100000 in
theorem str_app (a b : List UInt8) : (⟨a.toArray⟩ : ByteArray) ++ ⟨b.toArray⟩ = ⟨(a ++ b).toArray⟩ := by
  apply ByteArray.ext
  simp
/-- A writer's bytes, the last one filled with noughts. -/
def wtext (F : List UInt8) (q h : Nat) : List UInt8 := if h = 0 then F else F ++ [UInt8.ofNat (q % 256)]
set_option maxHeartbeats 1000000 in
set_option maxRecDepth 100000 in
theorem wtext_any (b : Nat) (v : Value) (F : List UInt8) (q h : Nat) (w : World) (hb : WBox w b v F q h) (hF : F.length ≤ 1000000000) (hh : h < 8) :
    Calls Tryz.prog 179 #[.pointer (some ⟨b, 0, none⟩)] w fun e w' => e = .returned (.string ⟨(wtext F q h).toArray⟩) ∧ Below w.heap.size w w' := by
  have HB := hidM hb
  have c0 := hb.c0
  have c1 := hb.c1
  have c2 := hb.c2
  have hcv := conv_own hb.own
  by_cases h0 : h = 0
  · subst h0
    have HT : Hid (wtext F q 0 = F) := rfl
    go_enter Tryz.func179, Tryz.ntmps179
    go_wp2
    go_ret
    exact ⟨by rw [HT.out]; rfl, Below.refl _ _⟩
  · have HT : Hid (wtext F q h = F ++ [UInt8.ofNat (q % 256)]) := by unfold Hid wtext; rw [if_neg h0]
    have hpos : 0 < h := by omega
    have e8 : Value.int .u8 ((q : Int) % 256) = .int .u8 ((UInt8.ofNat (q % 256)).toNat : Int) := val_int (by rw [byte_of]; omega)
    have hcv2 : (convert 74 9 (.slice (some ⟨w.heap.size, 0, none⟩) 1 1)).run Tryz.prog (w.alloc (.cells #[.int .u8 ((q : Int) % 256)] 5)) = .ok (.string ⟨[UInt8.ofNat (q % 256)].toArray⟩) (w.alloc (.cells #[.int .u8 ((q : Int) % 256)] 5)) := by
      rw [e8]
      exact conv_own (base := w.heap.size) (l := [UInt8.ofNat (q % 256)]) (World.ownsRow_lit w _ 1 (Nat.le_refl _) (by decide) rfl)
    have hadd : ∀ u : World, (Op.stringOp .add ⟨F.toArray⟩ ⟨[UInt8.ofNat (q % 256)].toArray⟩).run Tryz.prog u = .ok (.string ⟨(wtext F q h).toArray⟩) u := by
      intro u
      rw [run_string_add_sum _ _ _ (by show F.toArray.size + 1 ≤ _; rw [List.size_toArray]; omega), str_app, HT.out]
    clear hb e8
    generalize [UInt8.ofNat (q % 256)].toArray = Z at *
    go_enter Tryz.func179, Tryz.ntmps179
    go_wp2
    go_ret
    exact ⟨rfl, (Below.refl _ _).alloc (Nat.le_refl _) _⟩
set_option maxRecDepth 100000 in
theorem le_wtext (F : List UInt8) (q h : Nat) (hq : q < 2 ^ h) (hh : h < 8) : le (wtext F q h) = WNum F q := by
  unfold wtext WNum
  split
  · rename_i h0
    subst h0
    have : q = 0 := by simpa using hq
    subst this; simp
  · have : q < 256 := Nat.lt_of_lt_of_le hq (show 2 ^ h ≤ 2 ^ 8 from Nat.pow_le_pow_right (by decide) (by omega))
    rw [le_app]
    have e : le [UInt8.ofNat (q % 256)] = q := by simp [le]; omega
    rw [e]
set_option maxRecDepth 100000 in
theorem wtext_len (F : List UInt8) (q h : Nat) (hh : h < 8) : (wtext F q h).length = (8 * F.length + h + 7) / 8 := by
  unfold wtext; split
  · omega
  · simp; omega
set_option maxRecDepth 100000 in
theorem wnum_put (F : List UInt8) (q h y : Nat) (t : Nat) (ht : 8 * F.length + h = t) : WNum F (q + 2 ^ h * y) = WNum F q + 2 ^ t * y := by
  unfold WNum
  rw [Nat.mul_add, ← Nat.mul_assoc, pow256, ← Nat.pow_add, ht, Nat.add_assoc]
/-- The writer at b has put k of the numbers. -/
def WAt (w : World) (b : Nat) (N T : Nat) : Prop := ∃ v F q h, WBox w b v F q h ∧ h < 8 ∧ q < 2 ^ h ∧ 8 * F.length + h = T ∧ WNum F q = N
set_option maxRecDepth 100000 in
theorem WAt.below {w w' : World} {b N T : Nat} (x : WAt w b N T) (hb : Below w.heap.size w w') : WAt w' b N T := by
  obtain ⟨v, F, q, h, hw, hr⟩ := x
  exact ⟨v, F, q, h, hw.below hb, hr⟩
set_option maxRecDepth 100000 in
theorem WAt.drewN {w : World} {b N T : Nat} (x : WAt w b N T) (m : Nat) : WAt (w.drewN m) b N T := by
  obtain ⟨v, F, q, h, hw, hr⟩ := x
  exact ⟨v, F, q, h, hw.drewN m, hr⟩
set_option maxRecDepth 100000 in
theorem WAt.lt {w : World} {b N T : Nat} (x : WAt w b N T) : b < w.heap.size := by
  obtain ⟨v, F, q, h, hw, hr⟩ := x
  exact hw.lt
set_option maxRecDepth 100000 in
theorem wtext_at (b N T : Nat) (w : World) (hb : WAt w b N T) (hT : T ≤ 1000000000) :
    Calls Tryz.prog 179 #[.pointer (some ⟨b, 0, none⟩)] w fun e w' => (∃ s : ByteArray, e = .returned (.string s) ∧ le s.data.toList = N ∧ s.size = (T + 7) / 8) ∧ Below w.heap.size w w' := by
  obtain ⟨v, F, q, h, hw, hh, hq, ht, hN⟩ := hb
  refine (wtext_any b v F q h w hw (by omega) hh).mono ?_
  rintro e w' ⟨rfl, hbel⟩
  refine ⟨⟨_, rfl, ?_, ?_⟩, hbel⟩
  · show le (wtext F q h) = N
    rw [le_wtext F q h hq hh, hN]
  · show (wtext F q h).toArray.size = _
    rw [List.size_toArray, wtext_len F q h hh, ht]
set_option maxRecDepth 100000 in
theorem WAt.new (w : World) : WAt (w.alloc (.cells #[.slice none 0 0, .int .u64 0, .int .i64 0] 230)) w.heap.size 0 0 :=
  ⟨.slice none 0 0, [], 0, 0, ⟨heap_alloc_new w _, World.ownsRow_nil _ _ _ _⟩, by decide, by decide, rfl, rfl⟩
set_option maxRecDepth 100000 in
theorem swp_u32 (s m x : Nat) (hx : x < 4294967296) (hm : m < 4294967296) (p : Int) (hp : p = 2 ^ s) :
    bits .or .u32 (bits .and .u32 ((x : Int) / p) (m : Int)) (bits .and .u32 (x : Int) (m : Int) * p % 4294967296) = ((swp s m x : Nat) : Int) := by
  subst hp
  have e1 : (x : Int) / 2 ^ s = ((x / 2 ^ s : Nat) : Int) := by simp
  have h1 : x / 2 ^ s < 4294967296 := Nat.lt_of_le_of_lt (Nat.div_le_self _ _) hx
  rw [e1, u32_and_nat _ _ h1 hm, u32_and_nat _ _ hx hm]
  have e2 : (((x &&& m : Nat) : Int) * 2 ^ s % 4294967296) = (((x &&& m) * 2 ^ s % 4294967296 : Nat) : Int) := by simp
  rw [e2, u32_or_nat _ _ (Nat.lt_of_le_of_lt Nat.and_le_left h1) (Nat.mod_lt _ (by decide))]
  rfl
set_option maxRecDepth 100000 in
theorem swp16_eq (x : Nat) (hx : x < 4294967296) : swp 16 65535 x = x / 65536 ||| x * 65536 % 4294967296 := by
  have h1 : x / 2 ^ 16 &&& 65535 = x / 65536 := by
    rw [show (65535 : Nat) = 2 ^ 16 - 1 by decide, Nat.and_two_pow_sub_one_eq_mod]; omega
  have h2 : x &&& 65535 = x % 65536 := by
    rw [show (65535 : Nat) = 2 ^ 16 - 1 by decide, Nat.and_two_pow_sub_one_eq_mod]
  have h3 : x % 65536 * 2 ^ 16 % 4294967296 = x * 65536 % 4294967296 := by omega
  unfold swp
  rw [h1, h2, h3]
set_option maxRecDepth 100000 in
theorem swp16 (x : Nat) (hx : x < 4294967296) : bits .or .u32 ((x : Int) / 65536) ((x : Int) * 65536 % 4294967296) = ((swp 16 65535 x : Nat) : Int) := by
  have e1 : (x : Int) / 65536 = ((x / 65536 : Nat) : Int) := by simp
  have e2 : (x : Int) * 65536 % 4294967296 = ((x * 65536 % 4294967296 : Nat) : Int) := by simp
  rw [e1, e2, u32_or_nat _ _ (by omega) (Nat.mod_lt _ (by decide)), swp16_eq x hx]
set_option maxHeartbeats 1000000 in
set_option maxRecDepth 100000 in
theorem revBytes_any (x : Nat) (w : World) (hx : x < 4294967296) :
    Calls Tryz.prog 262 #[.int .u32 x] w fun e w' => e = .returned (.int .u32 ((swp 16 65535 (swp 8 16711935 x) : Nat) : Int)) ∧ w' = w := by
  have h8 := swp_u32 8 16711935 x hx (by decide) 256 rfl
  have l8 := swp_lt 8 16711935 x hx
  generalize swp 8 16711935 x = y at *
  have h16 := swp16 y l8
  generalize swp 16 65535 y = z at *
  simp only [show ((16711935 : Nat) : Int) = 16711935 from rfl] at h8
  go_enter Tryz.func262, Tryz.ntmps262
  go_wp2
  go_ret
  exact ⟨rfl, rfl⟩
set_option maxHeartbeats 1000000 in
set_option maxRecDepth 100000 in
theorem rev_any (x : Nat) (w : World) (hx : x < 4294967296) :
    Calls Tryz.prog 226 #[.int .u32 x] w fun e w' => e = .returned (.int .u32 ((rev32 x : Nat) : Int)) ∧ w' = w := by
  have HR : Hid (rev32 x = swp 16 65535 (swp 8 16711935 (swp 4 252645135 (swp 2 858993459 (swp 1 1431655765 x))))) := rfl
  have h1 := swp_u32 1 1431655765 x hx (by decide) 2 rfl
  have l1 := swp_lt 1 1431655765 x hx
  generalize swp 1 1431655765 x = y1 at *
  have h2 := swp_u32 2 858993459 y1 l1 (by decide) 4 rfl
  have l2 := swp_lt 2 858993459 y1 l1
  generalize swp 2 858993459 y1 = y2 at *
  have h4 := swp_u32 4 252645135 y2 l2 (by decide) 16 rfl
  have l4 := swp_lt 4 252645135 y2 l2
  generalize swp 4 252645135 y2 = y4 at *
  simp only [show ((1431655765 : Nat) : Int) = 1431655765 from rfl, show ((858993459 : Nat) : Int) = 858993459 from rfl, show ((252645135 : Nat) : Int) = 252645135 from rfl] at h1 h2 h4
  go_enter Tryz.func226, Tryz.ntmps226
  go_wp2_with fail
  refine (revBytes_any y4 w l4).mono ?_
  rintro e w1 ⟨rfl, rfl⟩
  rw [← HR.out]
  go_wp2
  go_ret
  exact ⟨rfl, rfl⟩
/-- Of the blocks that there were all but b and v's own row are as they were, and none of them has become the row of v'. -/
def Sep (b : Nat) (v v' : Value) (w w' : World) : Prop := ∀ g, g < w.heap.size → g ≠ b → some g ≠ v.ownBlock → w'.heap[g]? = w.heap[g]? ∧ some g ≠ v'.ownBlock ∧ g < w'.heap.size
set_option maxRecDepth 100000 in
theorem Sep.refl (b : Nat) (v : Value) (w : World) : Sep b v v w w := fun _ h _ hv => ⟨rfl, hv, h⟩
set_option maxRecDepth 100000 in
theorem Sep.drew {b : Nat} {v v' : Value} {w w' : World} (h : Sep b v v' w w') : Sep b v v' w w'.drew := h
set_option maxRecDepth 100000 in
theorem Sep.trans {b : Nat} {v v' v'' : Value} {w w' w'' : World} (h : Sep b v v' w w') (k : Sep b v' v'' w' w'') : Sep b v v'' w w'' := fun g h1 h2 h3 => by
  obtain ⟨a1, a2, a3⟩ := h g h1 h2 h3
  obtain ⟨b1, b2, b3⟩ := k g a3 h2 a2
  exact ⟨b1.trans a1, b2, b3⟩
set_option maxRecDepth 100000 in
theorem Sep.setCell {b : Nat} {v v' : Value} {w w' : World} (h : Sep b v v' w w') (o : Nat) (u : Value) : Sep b v v' w (w'.setCell ⟨b, o, none⟩ u) := fun g h1 h2 h3 => by
  obtain ⟨a1, a2, a3⟩ := h g h1 h2 h3
  exact ⟨(Below.heap_setCell w' ⟨b, o, none⟩ u g h2).trans a1, a2, by simpa using a3⟩
set_option maxRecDepth 100000 in
theorem Sep.push {b g n cap : Nat} {v v' : Value} {w wr w1 : World} {ob : Obj} (hs : Sep b v v' w wr) (hg : (wr.drew.alloc ob).grownBy w1 v'.ownBlock)
    (hat : v'.ownBlock = some g ∨ g = wr.heap.size + 1) : Sep b v (.slice (some ⟨g, 0, none⟩) n cap) w (w1.setCell ⟨b, 0, none⟩ (.slice (some ⟨g, 0, none⟩) n cap)) := by
  refine Sep.setCell ?_ 0 _
  intro k h1 h2 h3
  obtain ⟨a1, a2, a3⟩ := hs k h1 h2 h3
  refine ⟨(far_block hg a3 a2).trans a1, ?_, ?_⟩
  · rcases hat with h4 | h4
    · rw [h4] at a2
      simpa [Value.ownBlock] using a2
    · have : k ≠ g := by omega
      simpa [Value.ownBlock] using this
  · have := hg.size
    simp at this
    omega
set_option maxHeartbeats 2000000 in
set_option maxRecDepth 100000 in
theorem wbits_sep (b : Nat) (v : Value) (F : List UInt8) (q h x n : Nat) (w : World) (hb : WBox w b v F q h) (hF : F.length ≤ 1000000000) (hh : h < 8) (hq : q < 2 ^ h) (hn : n ≤ 32) (hx : x < 4294967296) :
    Calls Tryz.prog 170 #[.pointer (some ⟨b, 0, none⟩), .int .u32 x, .int .i64 n] w fun e w' => e = .returned (.tuple #[]) ∧ ∃ v' F' q' h', WBox w' b v' F' q' h' ∧ h' < 8 ∧ q' < 2 ^ h' ∧ 8 * F'.length + h' = 8 * F.length + h + n ∧ WNum F' q' = WNum F (q + 2 ^ h * (x % 2 ^ n)) ∧ Below b w w' ∧ Sep b v v' w w' := by
  have HB := hidM hb
  have h1 := hb.c1
  have h2 := hb.c2
  have f1 := hb.fz 1
  have f2 := hb.fz 2
  obtain ⟨y, hy⟩ : ∃ y, y = x % 2 ^ n := ⟨_, rfl⟩
  have HY := hidM hy
  have hlo : bits .and .u64 (x : Int) (IntKind.u64.wrap (IntKind.u64.wrap (2 ^ n) - 1)) = (y : Int) := by rw [hy]; exact low_bits x n hn hx
  have hyn : y < 2 ^ n := by rw [hy]; exact Nat.mod_lt _ (Nat.pow_pos (by decide))
  have hyx : y < 4294967296 := by rw [hy]; exact Nat.lt_of_le_of_lt (Nat.mod_le _ _) hx
  obtain ⟨z, hz⟩ : ∃ z, z = q + 2 ^ h * y := ⟨_, rfl⟩
  have HZ := hidM hz
  have hpu : bits .or .u64 (q : Int) (IntKind.u64.wrap ((y : Int) * 2 ^ h)) = (z : Int) := by rw [hz]; exact put_bits q y h hq hh hyx
  have HZ2 : Hid (z < 2 ^ (h + n)) := by
    unfold Hid
    rw [hz, Nat.pow_add]
    calc q + 2 ^ h * y < 2 ^ h + 2 ^ h * y := by omega
      _ = 2 ^ h * (y + 1) := by rw [Nat.mul_add, Nat.mul_one, Nat.add_comm]
      _ ≤ 2 ^ h * 2 ^ n := Nat.mul_le_mul_left _ hyn
  clear hb hy hz hyn hyx hq
  go_enter Tryz.func170, Tryz.ntmps170
  go_wp2
  go_region
  all_goals go_wp2
  have HW0 : Hid (WBox (((w.setCell ⟨b, 1, none⟩ (.int .u64 (z : Int))).setCell ⟨b, 2, none⟩ (.int .i64 ((h : Int) + (n : Int)))).drew) b v F z (h + n)) := ((HB.out.set1 z).set2 (h + n)).drewN 1
  have HB0 : Hid (Below b w (((w.setCell ⟨b, 1, none⟩ (.int .u64 (z : Int))).setCell ⟨b, 2, none⟩ (.int .i64 ((h : Int) + (n : Int)))).drew)) :=
    below_drewN (below_set (below_set (Below.refl b w) (Nat.le_refl b)) (Nat.le_refl b)) 1
  have HP0 : Hid (Sep b v v w (((w.setCell ⟨b, 1, none⟩ (.int .u64 (z : Int))).setCell ⟨b, 2, none⟩ (.int .i64 ((h : Int) + (n : Int)))).drew)) :=
    (((Sep.refl b v w).setCell 1 _).setCell 2 _).drew
  generalize ((w.setCell ⟨b, 1, none⟩ (.int .u64 (z : Int))).setCell ⟨b, 2, none⟩ (.int .i64 ((h : Int) + (n : Int)))).drew = w0 at *
  clear h1 h2 f1 f2
  go_loopw [] (fun wr => ∃ (v' : Value) (F' : List UInt8) (q' h' : Nat), WBox wr b v' F' q' h' ∧ q' < 2 ^ h' ∧ h' ≤ 39 ∧ 8 * F'.length + h' = 8 * F.length + h + n ∧ WNum F' q' = WNum F z ∧ Below b w wr ∧ Sep b v v' w wr) (fun wr => heldOf wr b)
  case atStart => exact ⟨v, F, z, h + n, HW0.out, HZ2.out, by omega, by omega, rfl, HB0.out, HP0.out⟩
  case round =>
    obtain ⟨v', F', q', h', hw, hq', h39, hsum, hnum, hbr, hsep⟩ := hrel
    have HSP := hidM hsep
    have HW := hidM hw
    have HQ := hidM hq'
    have HS := hidM hsum
    have HN := hidM hnum
    have HBR := hidM hbr
    have c0 := hw.c0
    have c1 := hw.c1
    have c2 := hw.c2
    have f0 := hw.fz 0
    have f1 := hw.fz 1
    have f2 := hw.fz 2
    have hF' : F'.length ≤ 1000000010 := by omega
    clear hw hq' hsum hnum hbr hsep HW0 HB0 HP0
    by_cases h8 : h' < 8
    · go_wp2
      exact bodyPost_end (results_none Tryz.results170 _ _ _) rfl ⟨rfl, v', F', q', h', HW.out, h8, HQ.out, HS.out, by rw [HN.out, HZ.out, HY.out], HBR.out, HSP.out⟩
    · obtain ⟨i0, hi, hz0, hz1, hz2⟩ := info_parts Tryz.info5
      have HBN : Hid (b < wr.heap.size) := HW.out.lt
      have HNE : Hid (some b ≠ v'.ownBlock) := fun he => by have := (World.ownsRow.lt HW.out.own b he.symm).1; omega
      have n0 := World.new_ne wr _ c0
      have n1 := World.new_ne wr _ c1
      have k00 : ∀ o, (wr.alloc o).cell? ⟨b, 0, none⟩ = some v' := fun o => (World.cell?_alloc_some wr _ o (by rw [c0]; rfl)).trans c0
      have k01 : ∀ o, (wr.alloc o).cell? ⟨b, 1, none⟩ = some (.int .u64 (q' : Int)) := fun o => (World.cell?_alloc_some wr _ o (by rw [c1]; rfl)).trans c1
      go_wp2
      go_region_law ((refine step_append_lies _ rfl (.tmp 49) (.tmp 55) 74 (by rfl) (b + 1) 5 i0 (.int .u8 0) 1 1 Tryz.underlying74 hi hz0 hz1 hz2 rfl (by decide) v' F'.length (bytesV F') (by rfl) (World.ownsRow.alloc HW.out.own _) ⟨wr.heap.size, 0, none⟩ 1 1 [.int .u8 ((q' : Int) % 256)] (by rfl) (by rfl) (World.news_of_block (heap_alloc_new _ _)) (by intro u hu; simp at hu; subst hu; rfl) (by decide) (by unfold maxLen; omega) (by omega) (by have := HBN.out; simp; omega) (wr.heap.size + 1) (by simp) ?_; intro g cap w1 hown hgrow hat hlt; have hb1 := (far_block hgrow HBN.out HNE.out).trans HW.out.box; have k0 : w1.cell? ⟨b, 0, none⟩ = some v' := (by rw [cell_of_row w1 b _ _ 230 (0, 0) hb1]; rfl); have k1 := frozen_of_row w1 b 0 _ 230 hb1; have HP := hidM (HW.out.push hgrow hown); have HPB := hidM (HW.out.pushBelow (g := g) (cap := cap) hgrow HBR.out); have HSP1 := hidM (HSP.out.push (n := F'.length + 1) (cap := cap) hgrow hat); clear hown hgrow hat hlt hb1))
      all_goals
        clear c0 c1 c2 f0 f1 f2 k0 k1 n0 n1 k00 k01
        generalize w1.setCell ⟨b, 0, none⟩ (.slice (some ⟨g, 0, none⟩) (F'.length + 1) cap) = w2 at *
        have c1 := HP.out.c1
        have c2 := HP.out.c2
        have f1 := HP.out.fz 1
        have f2 := HP.out.fz 2
        have HP2 : Hid (WBox ((w2.setCell ⟨b, 1, none⟩ (.int .u64 ((q' / 256 : Nat) : Int))).setCell ⟨b, 2, none⟩ (.int .i64 ((h' - 8 : Nat) : Int))) b (.slice (some ⟨g, 0, none⟩) (F'.length + 1) cap) (F' ++ [UInt8.ofNat (q' % 256)]) (q' / 256) (h' - 8)) := (HP.out.set1 (q' / 256)).set2 (h' - 8)
        have HM2 := HP2.out.held
        have e1 : ((q' / 256 : Nat) : Int) = (q' : Int) / 256 := by omega
        have e2 : ((h' - 8 : Nat) : Int) = (h' : Int) - 8 := by omega
        have HQ2 : Hid (q' / 256 < 2 ^ (h' - 8)) := by
          unfold Hid
          refine Nat.div_lt_of_lt_mul ?_
          have : 2 ^ h' = 256 * 2 ^ (h' - 8) := by rw [show (256 : Nat) = 2 ^ 8 by decide, ← Nat.pow_add]; congr 1; omega
          rw [← this]; exact HQ.out
        have HM := hidM HM2
        have HM0 := hidM HW.out.held
        rw [e1, e2] at HP2 HM
        clear e1 e2 HM2
        go_wp2
        go_roundw
        case rel => exact ⟨_,_,_,_, HP2.out, HQ2.out, by omega, by have := HS.out; simp; omega, by rw [wnum_step]; exact HN.out, below_set (below_set HPB.out (Nat.le_refl b)) (Nat.le_refl b), (HSP1.out.setCell 1 _).setCell 2 _⟩
        case measure => rw [HM.out, HM0.out]; omega
/-- What a writer has, beside blocks that are not its own. -/
def WAtG (w : World) (b N T : Nat) (G : List (Nat × Obj)) : Prop := ∃ v F q h, WBox w b v F q h ∧ h < 8 ∧ q < 2 ^ h ∧ 8 * F.length + h = T ∧ WNum F q = N ∧ ∀ p ∈ G, some p.1 ≠ v.ownBlock ∧ w.heap[p.1]? = some p.2 ∧ p.1 ≠ b
set_option maxRecDepth 100000 in
theorem wbits_g (b N T x n : Nat) (G : List (Nat × Obj)) (w : World) (hb : WAtG w b N T G) (hT : T ≤ 1000000000) (hn : n ≤ 32) (hx : x < 4294967296) :
    Calls Tryz.prog 170 #[.pointer (some ⟨b, 0, none⟩), .int .u32 x, .int .i64 n] w fun e w' => e = .returned (.tuple #[]) ∧ WAtG w' b (N + 2 ^ T * (x % 2 ^ n)) (T + n) G ∧ Below b w w' := by
  obtain ⟨v, F, q, h, hw, hh, hq, ht, hN, hG⟩ := hb
  refine (wbits_sep b v F q h x n w hw (by omega) hh hq hn hx).mono ?_
  rintro e w' ⟨rfl, v', F', q', h', hw', hh', hq', ht', hN', hbel, hsep⟩
  refine ⟨rfl, ⟨v', F', q', h', hw', hh', hq', by omega, by rw [hN', wnum_put F q h _ T ht, hN], fun p hp => ?_⟩, hbel⟩
  obtain ⟨h1, h2, h3⟩ := hG p hp
  obtain ⟨s1, s2, s3⟩ := hsep p.1 (Array.getElem?_eq_some_iff.1 h2).1 h3 h1
  exact ⟨s2, s1.trans h2, h3⟩
set_option maxHeartbeats 1000000 in
set_option maxRecDepth 100000 in
theorem wcode_g (b N T x n : Nat) (G : List (Nat × Obj)) (w : World) (hb : WAtG w b N T G) (hT : T ≤ 1000000000) (hn : n ≤ 32) (hn1 : 1 ≤ n) (hx : x < 4294967296) :
    Calls Tryz.prog 174 #[.pointer (some ⟨b, 0, none⟩), .int .u32 x, .int .i64 n] w fun e w' => e = .returned (.tuple #[]) ∧ WAtG w' b (N + 2 ^ T * (rev32 x / 2 ^ (32 - n))) (T + n) G ∧ Below b w w' := by
  have HB := hidM hb
  obtain ⟨r, hr⟩ : ∃ r, r + n = 32 := ⟨32 - n, by omega⟩
  have HRN := hidM hr
  have hsub : (32 : Int) - (n : Int) = (r : Int) := by omega
  have hrl := rev32_lt x hx
  have HQ : Hid (rev32 x / 2 ^ (32 - n) = rev32 x / 2 ^ r) := by unfold Hid; rw [show 32 - n = r by omega]
  have HLT : Hid (rev32 x / 2 ^ r < 4294967296) := Nat.lt_of_le_of_lt (Nat.div_le_self _ _) hrl
  have HMD : Hid (rev32 x / 2 ^ r % 2 ^ n = rev32 x / 2 ^ r) := by
    refine Nat.mod_eq_of_lt (Nat.div_lt_of_lt_mul ?_)
    rw [← Nat.pow_add, hr]
    exact hrl
  have r32 : r < 32 := by omega
  have hdv : ((rev32 x : Nat) : Int) / 2 ^ r = ((rev32 x / 2 ^ r : Nat) : Int) := by simp
  rw [HQ.out]
  clear hb hr HQ
  generalize rev32 x / 2 ^ r = V at *
  go_enter Tryz.func174, Tryz.ntmps174
  go_wp2_with fail
  refine (rev_any x w hx).mono ?_
  rintro e w1 ⟨rfl, rfl⟩
  generalize rev32 x = R at *
  go_wp2_with fail
  refine (wbits_g _ N T V n G _ HB.out hT hn HLT.out).mono ?_
  rintro e w2 ⟨rfl, hw2, hb2⟩
  rw [HMD.out] at hw2
  have HW2 := hidM hw2
  have HB2 := hidM hb2
  clear hw2 hb2
  go_wp2
  exact bodyPost_end (results_none Tryz.results174 _ _ _) rfl ⟨rfl, HW2.out, HB2.out⟩
set_option maxRecDepth 100000 in
theorem WBox.put0 {w w1 : World} {b : Nat} {v v' : Value} {F G : List UInt8} {q h : Nat} (x : WBox w b v F q h) (hg : w.grownBy w1 v.ownBlock)
    (hown : w1.ownsRow (b + 1) 5 1 v' (F.length + G.length) (bytesV F ++ bytesV G)) :
    WBox (w1.setCell ⟨b, 0, none⟩ v') b v' (F ++ G) q h := by
  have hne : some b ≠ v.ownBlock := fun he => by have := (World.ownsRow.lt x.own b he.symm).1; omega
  have hb := (hg.block b x.lt hne).trans x.box
  refine ⟨by rw [heap_setCell_same w1 b _ _ 230 _ hb]; rfl, ?_⟩
  refine ownsRow_setCell_below ?_ (Nat.lt_succ_self b) _
  rw [← bytesV_app, ← List.length_append] at hown
  exact hown
set_option maxRecDepth 100000 in
theorem WBox.put0Below {w w0 w1 : World} {b : Nat} {v v' : Value} {F : List UInt8} {q h : Nat} (x : WBox w b v F q h) (hg : w.grownBy w1 v.ownBlock) (hb : Below b w0 w) : Below b w0 (w1.setCell ⟨b, 0, none⟩ v') :=
  below_set (hb.grown hg (Nat.le_of_lt x.lt) (fun k hk => by have := (World.ownsRow.lt x.own k hk).1; omega)) (Nat.le_refl b)
set_option maxHeartbeats 1000000 in
set_option maxRecDepth 100000 in
theorem walign_g (b N T : Nat) (G : List (Nat × Obj)) (w : World) (hb : WAtG w b N T G) (hT : T ≤ 1000000000) :
    Calls Tryz.prog 264 #[.pointer (some ⟨b, 0, none⟩)] w fun e w' => e = .returned (.tuple #[]) ∧ WAtG w' b N ((T + 7) / 8 * 8) G ∧ Below b w w' := by
  have HB := hidM hb
  obtain ⟨v, F, q, h, hw, hh, hq, ht, hN, hne⟩ := hb
  have c2 := hw.c2
  have HT := hidM ht
  clear hN hq ht hne
  by_cases h0 : h = 0
  · subst h0
    have HE : Hid ((T + 7) / 8 * 8 = T) := by have := HT.out; unfold Hid; omega
    go_enter Tryz.func264, Tryz.ntmps264
    go_wp2
    exact bodyPost_end (results_none Tryz.results264 _ _ _) rfl ⟨rfl, by rw [HE.out]; exact HB.out, Below.refl _ _⟩
  · obtain ⟨r, hr⟩ : ∃ r, r + h = 8 := ⟨8 - h, by omega⟩
    have hsub : (8 : Int) - (h : Int) = (r : Int) := by omega
    have HE : Hid ((T + 7) / 8 * 8 = T + r) := by have := HT.out; unfold Hid; omega
    have hpos : 0 < h := by omega
    clear hr
    go_enter Tryz.func264, Tryz.ntmps264
    go_wp2_with fail
    refine (wbits_g _ N T 0 r G _ HB.out hT (by omega) (by decide)).mono ?_
    rintro e w2 ⟨rfl, hw2, hb2⟩
    rw [Nat.zero_mod, Nat.mul_zero, Nat.add_zero] at hw2
    have HW2 := hidM hw2
    have HB2 := hidM hb2
    clear hw2 hb2
    go_wp2
    exact bodyPost_end (results_none Tryz.results264 _ _ _) rfl ⟨rfl, by rw [HE.out]; exact HW2.out, HB2.out⟩
set_option maxHeartbeats 1000000 in
set_option maxRecDepth 100000 in
theorem wbytes_g (b N T : Nat) (s : ByteArray) (G : List (Nat × Obj)) (w : World) (hb : WAtG w b N T G) (hH : ∀ p ∈ G, ∀ cur fr, p.2 ≠ .cells cur 5 fr) (hT : T ≤ 1000000000) (hs : s.size ≤ 1000000000) :
    Calls Tryz.prog 229 #[.pointer (some ⟨b, 0, none⟩), .string s] w fun e w' => e = .returned (.tuple #[]) ∧ WAtG w' b (N + 2 ^ ((T + 7) / 8 * 8) * le s.data.toList) ((T + 7) / 8 * 8 + 8 * s.size) G ∧ Below b w w' := by
  obtain ⟨i0, hi, hz0, hz1, hz2⟩ := info_parts Tryz.info5
  go_enter Tryz.func229, Tryz.ntmps229
  go_wp2_with fail
  refine (walign_g b N T G w hb hT).mono ?_
  rintro e w1 ⟨rfl, hw1, hb1⟩
  obtain ⟨v, F, q, h, hw, hh, hq, ht, hN, hnv⟩ := hw1
  have HNV := hidM hnv
  have h0 : h = 0 := by omega
  subst h0
  have q0 : q = 0 := by simpa using hq
  subst q0
  have HW := hidM hw
  have HT := hidM ht
  have HN := hidM hN
  have HB1 := hidM hb1
  have c0 := hw.c0
  have HFL : Hid (F.length ≤ 1000000000) := by unfold Hid; omega
  have HLT := hidM hw.lt
  clear hw ht hN hb1 hb hq hh hnv
  go_wp2_with (first
    | (at_builtin; refine Lib.wpList_append_own_string _ rfl _ _ 74 9 rfl (b + 1) 5 i0 Tryz.underlying74 Tryz.underlying9 hi hz0 hz1 hz2 _ _ _ rfl HW.out.own s rfl ?c1 ?c2 ?c3 ?_))
  case c1 => have := HFL.out; unfold maxLen; omega
  case c2 => have := HFL.out; omega
  case c3 => have := HLT.out; omega
  intro v' w2 hown hgrow _
  obtain ⟨a', n', c', rfl⟩ : ∃ a n c, v' = .slice a n c := by
    rcases hown.2 with ⟨h1, _⟩ | ⟨g, cap, cur, h1, _⟩
    · exact ⟨_,_,_, h1⟩
    · exact ⟨_,_,_, h1⟩
  have hl : s.size = s.data.toList.length := by simp
  have hW2 := HW.out.put0 (G := s.data.toList) hgrow (by rw [← hl]; exact hown)
  have HW2 := hidM hW2
  have HB2 := hidM (HW.out.put0Below (v' := .slice a' n' c') hgrow HB1.out)
  have hne : some b ≠ v.ownBlock := fun he => by have := (World.ownsRow.lt HW.out.own b he.symm).1; omega
  have hbx := (hgrow.block b HLT.out hne).trans HW.out.box
  have k0 : w2.cell? ⟨b, 0, none⟩ = some v := by rw [cell_of_row w2 b _ _ 230 (0, 0) hbx]; rfl
  have k1 := frozen_of_row w2 b 0 _ 230 hbx
  have HG2 : Hid (∀ p ∈ G, some p.1 ≠ (Value.slice a' n' c').ownBlock ∧ (w2.setCell ⟨b, 0, none⟩ (.slice a' n' c')).heap[p.1]? = some p.2 ∧ p.1 ≠ b) := fun p hp => by
    obtain ⟨h1, h2, h3⟩ := HNV.out p hp
    have h4 : (w2.setCell ⟨b, 0, none⟩ (.slice a' n' c')).heap[p.1]? = some p.2 :=
      (Below.heap_setCell w2 ⟨b, 0, none⟩ _ p.1 h3).trans ((hgrow.block p.1 (Array.getElem?_eq_some_iff.1 h2).1 h1).trans h2)
    refine ⟨fun he => ?_, h4, h3⟩
    rcases HW2.out.own.2 with ⟨h5, _⟩ | ⟨g', cp, cur, h5, _, h6, _⟩
    · rw [h5] at he; simp [Value.ownBlock] at he
    · rw [h5] at he
      simp [Value.ownBlock] at he
      rw [← he, h4] at h6
      exact hH p hp cur (0, 0) (by simpa using h6)
  clear hown hgrow hne hbx hl hW2 c0
  go_wp2
  refine bodyPost_end (results_none Tryz.results229 _ _ _) rfl ⟨rfl, ⟨_, F ++ s.data.toList, 0, 0, HW2.out, by decide, by decide, ?_, ?_, HG2.out⟩, HB2.out⟩
  · have := HT.out
    simp
    omega
  · have h1 := HN.out
    have h2 := HT.out
    unfold WNum at h1 ⊢
    rw [Nat.mul_zero, Nat.add_zero] at h1 ⊢
    rw [le_app, h1, ← h2, pow256, Nat.add_zero]
set_option maxHeartbeats 400000 in
set_option maxRecDepth 100000 in
theorem ralign_any (b : Nat) (s : ByteArray) (t : Nat) (w : World) (h : RBox w b s t) (ht : t ≤ 1000000000000) :
    Calls Tryz.prog 317 #[.pointer (some ⟨b, 0, none⟩)] w fun e w' => e = .returned (.tuple #[]) ∧ w' = w.setCell ⟨b, 1, none⟩ (.int .i64 (((t + 7) / 8 * 8 : Nat) : Int)) := by
  have c1 := h.taken
  have f1 := h.frozen 1
  go_enter Tryz.func317, Tryz.ntmps317
  go_wp2_with fail
  refine (used_any b s t w h ht).mono ?_
  rintro e w1 ⟨rfl, rfl⟩
  obtain ⟨u, hu⟩ : ∃ u, u = (t + 7) / 8 := ⟨_, rfl⟩
  have hu2 : u ≤ 1000000000000 := by omega
  rw [← hu]
  have HU := hidM hu
  clear hu
  go_wp2
  refine bodyPost_end (results_none Tryz.results317 _ _ _) rfl ⟨rfl, ?_⟩
  rw [show 8 * (u : Int) = ((u * 8 : Nat) : Int) by omega, HU.out]
set_option maxHeartbeats 1000000 in
set_option maxRecDepth 100000 in
theorem bytes_yes (b : Nat) (s : ByteArray) (t u q n : Nat) (w : World) (h : RBox w b s t) (hs : s.size ≤ 100000000000) (ht : t ≤ 8 * s.size) (hu : u = (t + 7) / 8) (hq : u + q = s.size) (hn : n ≤ q) :
    Calls Tryz.prog 300 #[.pointer (some ⟨b, 0, none⟩), .int .i64 n] w fun e w' => e = .returned (.tuple #[.string (s.extract u (u + n)), .bool true]) ∧ RBox w' b s (u * 8 + 8 * n) ∧ Only b w w' := by
  have HU := hidM hu
  have HQ := hidM hq
  clear hu hq
  have HUS : u + n ≤ s.size := by have := HQ.out; omega
  go_enter Tryz.func300, Tryz.ntmps300
  go_wp2_with fail
  refine (ralign_any b s t w h (by omega)).mono ?_
  rintro e w1 ⟨rfl, rfl⟩
  rw [← HU.out]
  have HR := hidM (h.set (u * 8))
  have HO : Hid (Only b w (w.setCell ⟨b, 1, none⟩ (.int .i64 ((u * 8 : Nat) : Int)))) := (Only.refl b w).setCell _ _
  generalize w.setCell ⟨b, 1, none⟩ (.int .i64 ((u * 8 : Nat) : Int)) = w1 at *
  have HL : Hid (u * 8 + 8 * q = 8 * s.size) := by have := HQ.out; unfold Hid; omega
  have d1 : ((8 * q : Nat) : Int).tdiv 8 = (q : Int) := by rw [Int.tdiv_eq_ediv_of_nonneg (by omega)]; omega
  have d2 : ((8 * q : Nat) : Int) / 8 = (q : Int) := by omega
  have hqq : (q : Int) ≤ 100000000000 := by have := HQ.out; omega
  go_wp2_with fail
  refine (left_any b s (u * 8) (8 * q) w1 HR.out hs HL.out).mono ?_
  rintro e w2 ⟨rfl, m, rfl⟩
  generalize ((8 * q : Nat) : Int) = z at *
  go_wp2_with fail
  refine (used_any b s (u * 8) _ (HR.out.drewN m) (by omega)).mono ?_
  rintro e w3 ⟨rfl, rfl⟩
  rw [show (u * 8 + 7) / 8 = u by omega]
  have c0 := (HR.out.drewN m).text
  have c1 := (HR.out.drewN m).taken
  have f1 := (HR.out.drewN m).frozen 1
  clear d1 d2
  obtain ⟨y, hy⟩ : ∃ y, y = u * 8 := ⟨_, rfl⟩
  have HY := hidM hy
  rw [← hy] at c1
  have hy2 : y ≤ 8 * s.size := by omega
  have HR2 : Hid (RBox ((w1.drewN m).setCell ⟨b, 1, none⟩ (.int .i64 ((u * 8 + 8 * n : Nat) : Int))) b s (u * 8 + 8 * n)) := (HR.out.drewN m).set _
  have HO2 : Hid (Only b w ((w1.drewN m).setCell ⟨b, 1, none⟩ (.int .i64 ((u * 8 + 8 * n : Nat) : Int)))) := (HO.out.drewN m).setCell _ _
  rw [show ((u * 8 + 8 * n : Nat) : Int) = (y : Int) + 8 * (n : Int) by rw [hy]; omega] at HR2 HO2
  clear hy
  go_wp2
  go_ret2
  exact ⟨rfl, HR2.out, HO2.out⟩
end Go.Proofs.YtlmeoahcpmikiaaGreatDoor
namespace Go.Proofs.YtlmeoahcpmikiaaGreatDoor
open Go.RowKit
set_option maxHeartbeats 1000000 in
set_option maxRecDepth 100000 in
theorem bits_yes (b : Nat) (s : ByteArray) (t l n : Nat) (w : World) (h : RBox w b s t) (hs : s.size ≤ 100000000000) (hl : t + l = 8 * s.size) (hn : n ≤ 32) (hk : n ≤ l) :
    Calls Tryz.prog 316 #[.pointer (some ⟨b, 0, none⟩), .int .i64 n] w fun e w' => e = .returned (.tuple #[.int .u32 (bitsN s.data.toList t n : Nat), .bool true]) ∧ ∃ m, w' = (w.drewN m).setCell ⟨b, 1, none⟩ (.int .i64 ((t + n : Nat) : Int)) := by
  have HL := hidM hl
  clear hl
  go_enter Tryz.func316, Tryz.ntmps316
  go_wp2_with fail
  refine (peek_any b s t l n n w h hs HL.out hn (by omega)).mono ?_
  rintro e w1 ⟨rfl, m1, rfl⟩
  go_wp2_with fail
  refine (skip_yes b s t l n _ (h.drewN m1) hs HL.out hn hk).mono ?_
  rintro e w1 ⟨rfl, m2, rfl⟩
  go_wp2
  go_ret2
  exact ⟨rfl, m1 + m2, rfl⟩
set_option maxHeartbeats 1000000 in
set_option maxRecDepth 100000 in
theorem bits_no (b : Nat) (s : ByteArray) (t l n : Nat) (w : World) (h : RBox w b s t) (hs : s.size ≤ 100000000000) (hl : t + l = 8 * s.size) (hn : n ≤ 32) (hk : l < n) :
    Calls Tryz.prog 316 #[.pointer (some ⟨b, 0, none⟩), .int .i64 n] w fun e w' => e = .returned (.tuple #[.int .u32 0, .bool false]) ∧ ∃ m, w' = w.drewN m := by
  have HL := hidM hl
  clear hl
  go_enter Tryz.func316, Tryz.ntmps316
  go_wp2_with fail
  refine (peek_any b s t l n l w h hs HL.out hn (by omega)).mono ?_
  rintro e w1 ⟨rfl, m1, rfl⟩
  generalize bitsN s.data.toList t l = x at *
  go_wp2_with fail
  refine (skip_no b s t l n _ (h.drewN m1) hs HL.out hn hk).mono ?_
  rintro e w1 ⟨rfl, m2, rfl⟩
  go_wp2
  go_ret2
  exact ⟨rfl, m1 + m2, rfl⟩
set_option maxHeartbeats 1000000 in
set_option maxRecDepth 100000 in
theorem bytes_no (b : Nat) (s : ByteArray) (t u q : Nat) (n : Int) (w : World) (h : RBox w b s t) (hs : s.size ≤ 100000000000) (ht : t ≤ 8 * s.size) (hu : u = (t + 7) / 8) (hq : u + q = s.size) (hn : n < 0 ∨ (q : Int) < n) :
    Calls Tryz.prog 300 #[.pointer (some ⟨b, 0, none⟩), .int .i64 n] w fun e w' => e = .returned (.tuple #[.string ⟨#[]⟩, .bool false]) ∧ RBox w' b s (u * 8) ∧ Only b w w' := by
  have HU := hidM hu
  have HQ := hidM hq
  have HN := hidM hn
  clear hu hq hn
  go_enter Tryz.func300, Tryz.ntmps300
  go_wp2_with fail
  refine (ralign_any b s t w h (by omega)).mono ?_
  rintro e w1 ⟨rfl, rfl⟩
  rw [← HU.out]
  have HR := hidM (h.set (u * 8))
  have HO : Hid (Only b w (w.setCell ⟨b, 1, none⟩ (.int .i64 ((u * 8 : Nat) : Int)))) := (Only.refl b w).setCell _ _
  generalize w.setCell ⟨b, 1, none⟩ (.int .i64 ((u * 8 : Nat) : Int)) = w1 at *
  rcases HN.out with hn | hn
  · go_wp2
    go_ret2
    exact ⟨rfl, HR.out, HO.out⟩
  · have hn0 : ¬ n < 0 := by omega
    have hn1 : (0 : Int) ≤ n := by omega
    have HL : Hid (u * 8 + 8 * q = 8 * s.size) := by have := HQ.out; unfold Hid; omega
    have d1 : ((8 * q : Nat) : Int).tdiv 8 = (q : Int) := by rw [Int.tdiv_eq_ediv_of_nonneg (by omega)]; omega
    have d2 : ((8 * q : Nat) : Int) / 8 = (q : Int) := by omega
    have hqq : (q : Int) ≤ 100000000000 := by have := HQ.out; omega
    go_wp2_with fail
    refine (left_any b s (u * 8) (8 * q) w1 HR.out hs HL.out).mono ?_
    rintro e w2 ⟨rfl, m, rfl⟩
    generalize ((8 * q : Nat) : Int) = z at *
    go_wp2
    go_ret2
    exact ⟨rfl, HR.out.drewN m, HO.out.drewN m⟩
end Go.Proofs.YtlmeoahcpmikiaaGreatDoor
