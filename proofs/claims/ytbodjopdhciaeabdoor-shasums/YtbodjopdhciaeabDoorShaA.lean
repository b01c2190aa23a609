/-
  Walks of the leaf functions of sha: RotateLeft32, wordText, wordsText, step1, word.
-/
import Derived.Test.YtbodjopdhciaeabDoorRows
import Derived.Test.YtbodjopdhciaeabDoorShaM
import Derived.WalkKit
import Derived.WalkSpells
import Derived.WalkLawsBesides
import Derived.Laws.IdiomStrings
import Derived.Deep.QuietTactic
import Derived.BigQuiet
import Derived.Deep.RegionHeld3
import Derived.Deep.MidRow
namespace Go.Proofs.YtbodjopdhciaeabDoor
open Go.RowKit

theorem hidM {p : Prop} (h : p) : Hid p := h
theorem ret_int {k : IntKind} {a b : Int} (h : a = b) : Ending.returned (.int k a) = .returned (.int k b) := by rw [h]
theorem val_int {k : IntKind} {a b : Int} (h : a = b) : Value.int k a = .int k b := by rw [h]
theorem ret_two {k l : IntKind} {a b c d : Int} (h : a = b) (g : c = d) : Ending.returned (.tuple #[.int k a, .int l c]) = .returned (.tuple #[.int k b, .int l d]) := by rw [h, g]

/-- Bytes as the cells of a row. -/
def bytesV (l : List UInt8) : List Value := l.map fun c => .int .u8 (c.toNat : Int)
theorem bytesV_at (l : List UInt8) (j : Nat) (h : j < l.length) : (bytesV l)[j]? = some (.int .u8 (l[j].toNat : Int)) := by simp [bytesV, h]
theorem bytesV_len (l : List UInt8) : (bytesV l).length = l.length := by simp [bytesV]
/-- Words as the cells of a row. -/
def wordsV (l : List Nat) : List Value := l.map fun (c : Nat) => Value.int .u32 (c : Int)
theorem wordsV_at (l : List Nat) (j : Nat) (h : j < l.length) : (wordsV l)[j]? = some (.int .u32 (l[j] : Int)) := by simp [wordsV, h]
theorem wordsV_len (l : List Nat) : (wordsV l).length = l.length := by simp [wordsV]

theorem conv_row {w : World} {b off cap : Nat} {l : List UInt8} (h : w.rangeAt b off (bytesV l)) :
    (convert 57 9 (.slice (some ⟨b, off, none⟩) l.length cap)).run Tryd.prog w = .ok (.string ⟨l.toArray⟩) w := by
  refine run_convert_bytes_back w 57 9 5 _ cap l Tryd.underlying57 Tryd.underlying5 Tryd.underlying9 ?_
  intro j hj
  rw [Addr.add_lit]
  exact h j _ (bytesV_at l j hj)

set_option maxHeartbeats 400000 in
theorem rotate_any (x s : Nat) (k : Int) (w : World) (hx : x < 4294967296) (h2 : s < 32) (hk : bits .and .u64 (IntKind.u64.wrap k) 31 = (s : Int)) :
    Calls Tryd.prog 52 #[.int .u32 x, .int .i64 k] w fun e w' => e = .returned (.int .u32 (rotl s x : Nat)) ∧ w' = w := by
  go_enter Tryd.func52, Tryd.ntmps52
  go_wp2
  go_ret
  refine ⟨ret_int ?_, rfl⟩
  have e1 : ((x : Int) * 2 ^ s % 4294967296) = ((x * 2 ^ s % 4294967296 : Nat) : Int) := by simp
  have e2 : ((x : Int) / 2 ^ (32 - s)) = ((x / 2 ^ (32 - s) : Nat) : Int) := by simp
  rw [e1, e2, u32_or_nat _ _ (Nat.mod_lt _ (by decide)) (Nat.lt_of_le_of_lt (Nat.div_le_self _ _) hx), rotl_or s x h2 hx]

theorem word_cells (x : Nat) (hx : x < 4294967296) : [Value.int .u8 ((x : Int) / 16777216), .int .u8 ((x : Int) / 65536 % 256), .int .u8 ((x : Int) / 256 % 256), .int .u8 ((x : Int) % 256)] = bytesV (wordB x) := by
  unfold bytesV wordB
  simp only [List.map_cons, List.map_nil]
  rw [val_int (show (x : Int) / 16777216 = ((UInt8.ofNat (x / 16777216 % 256)).toNat : Int) by simp; omega),
    val_int (show (x : Int) / 65536 % 256 = ((UInt8.ofNat (x / 65536 % 256)).toNat : Int) by simp),
    val_int (show (x : Int) / 256 % 256 = ((UInt8.ofNat (x / 256 % 256)).toNat : Int) by simp),
    val_int (show (x : Int) % 256 = ((UInt8.ofNat (x % 256)).toNat : Int) by simp)]
theorem range_new (w : World) (cs : List Value) (t : TypeId) : (w.alloc (.cells cs.toArray t)).rangeAt w.heap.size 0 cs := by
  intro j v hv
  rw [cell_of_row _ w.heap.size (0 + j) cs.toArray t (0, 0) (heap_alloc_new w _)]
  simpa using hv

set_option maxHeartbeats 400000 in
theorem wordText_any (x : Nat) (w : World) (hx : x < 4294967296) :
    Calls Tryd.prog 55 #[.int .u32 x] w fun e w' => e = .returned (.string ⟨(wordB x).toArray⟩) ∧ Below w.heap.size w w' := by
  have hcv := conv_row (cap := 4) (l := wordB x) (range_new w (bytesV (wordB x)) 5)
  rw [wordB_len, ← word_cells x hx] at hcv
  go_enter Tryd.func55, Tryd.ntmps55
  go_wp2
  go_ret
  exact ⟨rfl, (Below.refl _ _).alloc (Nat.le_refl _) _⟩

theorem i64_small (n : Int) (h0 : 0 ≤ n) (h1 : n < 100000) : IntKind.i64.wrap n = n := by
  rw [IntKind.wrap_i64]; omega

set_option maxHeartbeats 400000 in
theorem word_any (b off i : Nat) (p : List UInt8) (w : World) (hi : i < 16) (hp : p.length = 64) (hr : w.rangeAt b off (bytesV p)) :
    Calls Tryd.prog 57 #[.pointer (some ⟨b, off, none⟩), .int .i64 i] w fun e w' => e = .returned (.int .u32 (blkW p i : Nat)) ∧ ∃ n, w' = w.drewN n := by
  have g : ∀ j, j < 64 → w.cell? ⟨b, off + j, none⟩ = some (.int .u8 ((p.getD j 0).toNat : Int)) := by
    intro j hj
    have := hr j _ (bytesV_at p j (by omega))
    rw [this, List.getD_eq_getElem?_getD, List.getElem?_eq_getElem (by omega)]
    rfl
  have HV : Hid ((blkW p i : Nat) = be4 (p.getD (4 * i) 0).toNat (p.getD (4 * i + 1) 0).toNat (p.getD (4 * i + 2) 0).toNat (p.getD (4 * i + 3) 0).toNat) := rfl
  obtain ⟨p0, e0⟩ : ∃ q, q = 4 * i := ⟨_, rfl⟩
  obtain ⟨p1, e1⟩ : ∃ q, q = 4 * i + 1 := ⟨_, rfl⟩
  obtain ⟨p2, e2⟩ : ∃ q, q = 4 * i + 2 := ⟨_, rfl⟩
  obtain ⟨p3, e3⟩ : ∃ q, q = 4 * i + 3 := ⟨_, rfl⟩
  rw [← e1, ← e2, ← e3, ← e0] at HV
  have hw0 : IntKind.i64.wrap (4 * (i : Int)) = (p0 : Int) := by rw [i64_small _ (by omega) (by omega)]; omega
  have hw1 : IntKind.i64.wrap ((p0 : Int) + 1) = (p1 : Int) := by rw [i64_small _ (by omega) (by omega)]; omega
  have hw2 : IntKind.i64.wrap ((p0 : Int) + 2) = (p2 : Int) := by rw [i64_small _ (by omega) (by omega)]; omega
  have hw3 : IntKind.i64.wrap ((p0 : Int) + 3) = (p3 : Int) := by rw [i64_small _ (by omega) (by omega)]; omega
  have h0 : (p0 : Int) < 64 := by omega
  have h1 : (p1 : Int) < 64 := by omega
  have h2 : (p2 : Int) < 64 := by omega
  have h3 : (p3 : Int) < 64 := by omega
  have g0 := g p0 (by omega)
  have g1 := g p1 (by omega)
  have g2 := g p2 (by omega)
  have g3 := g p3 (by omega)
  have b0 := byte_lt (p.getD p0 0)
  have b1 := byte_lt (p.getD p1 0)
  have b2 := byte_lt (p.getD p2 0)
  have b3 := byte_lt (p.getD p3 0)
  have HVV : Hid (∃ v : Int, v = (blkW p i : Nat) ∧ v = bits .or .u32 (bits .or .u32 (bits .or .u32 (((p.getD p0 0).toNat : Int) % 4294967296 * 16777216 % 4294967296) (((p.getD p1 0).toNat : Int) % 4294967296 * 65536 % 4294967296)) (((p.getD p2 0).toNat : Int) % 4294967296 * 256 % 4294967296)) (((p.getD p3 0).toNat : Int) % 4294967296)) :=
    ⟨_, rfl, by rw [be4_or _ _ _ _ b0 b1 b2 b3, HV.out]⟩
  clear g e0 e1 e2 e3 b0 b1 b2 b3 HV hr
  generalize (p.getD p0 0).toNat = c0 at *
  generalize (p.getD p1 0).toNat = c1 at *
  generalize (p.getD p2 0).toNat = c2 at *
  generalize (p.getD p3 0).toNat = c3 at *
  go_enter Tryd.func57, Tryd.ntmps57
  go_wp2
  go_quiet (fail)
  go_wp2
  go_ret
  obtain ⟨v, e, f⟩ := HVV.out
  exact ⟨ret_int (by rw [← f, e]), nq, rfl⟩

set_option maxHeartbeats 800000 in
theorem step1_any (i b c d : Nat) (w : World) (hi : i < 80) (hb : b < 4294967296) (hc : c < 4294967296) (hd : d < 4294967296) :
    Calls Tryd.prog 51 #[.int .i64 i, .int .u32 b, .int .u32 c, .int .u32 d] w fun e w' => e = .returned (.tuple #[.int .u32 (f1 i b c d : Nat), .int .u32 (k1 i : Nat)]) ∧ w' = w := by
  by_cases h20 : i < 20
  · have HF : Hid (f1 i b c d = (b &&& c) ||| ((ones32 ^^^ b) &&& d) ∧ k1 i = 1518500249) := by unfold Hid f1 k1; simp [h20]
    go_enter Tryd.func51, Tryd.ntmps51
    go_wp2
    go_ret2
    refine ⟨ret_two ?_ (by rw [HF.out.2]; rfl), rfl⟩
    rw [HF.out.1, umax32, u32_and_nat b c hb hc, u32_xor_nat _ _ ones32_lt hb, u32_and_nat _ _ (xor_lt ones32_lt hb) hd, u32_or_nat _ _ (and_lt hc) (and_lt hd)]
  · by_cases h40 : i < 40
    · have HF : Hid (f1 i b c d = (b ^^^ c) ^^^ d ∧ k1 i = 1859775393) := by unfold Hid f1 k1; simp [h20, h40]
      go_enter Tryd.func51, Tryd.ntmps51
      go_wp2
      go_ret2
      refine ⟨ret_two ?_ (by rw [HF.out.2]; rfl), rfl⟩
      rw [HF.out.1, u32_xor_nat _ _ hb hc, u32_xor_nat _ _ (xor_lt hb hc) hd]
    · by_cases h60 : i < 60
      · have HF : Hid (f1 i b c d = ((b &&& c) ||| (b &&& d)) ||| (c &&& d) ∧ k1 i = 2400959708) := by unfold Hid f1 k1; simp [h20, h40, h60]
        go_enter Tryd.func51, Tryd.ntmps51
        go_wp2
        go_ret2
        refine ⟨ret_two ?_ (by rw [HF.out.2]; rfl), rfl⟩
        rw [HF.out.1, u32_and_nat b c hb hc, u32_and_nat b d hb hd, u32_and_nat c d hc hd, u32_or_nat _ _ (and_lt hc) (and_lt hd), u32_or_nat _ _ (or_lt (and_lt hc) (and_lt hd)) (and_lt hd)]
      · have HF : Hid (f1 i b c d = (b ^^^ c) ^^^ d ∧ k1 i = 3395469782) := by unfold Hid f1 k1; simp [h20, h40, h60]
        go_enter Tryd.func51, Tryd.ntmps51
        go_wp2
        go_ret2
        refine ⟨ret_two ?_ (by rw [HF.out.2]; rfl), rfl⟩
        rw [HF.out.1, u32_xor_nat _ _ hb hc, u32_xor_nat _ _ (xor_lt hb hc) hd]
end Go.Proofs.YtbodjopdhciaeabDoor
