/-
  The document's Little, Turn, Big, Adler32, in this seat.
  Frames one behind the other: what CartularyFrames writes and reads; Few as a function.
  The document's frame around a stream; a frame one bit of whose sum is turned is refused; the law ZlibWrites, walked.
-/
import Derived.Test.YtddoemeellbhaaaGreatDoorJStoB
import Derived.Laws.AppendOwn
import Derived.Test.YtddoemeellbhaaaGreatDoorJRefX
import Derived.Laws.BitsAllLaws
import Derived.Laws.IdiomStrings
namespace Go.Proofs.YtddoemeellbhaaaGreatDoor
open Go.RowKit
set_option maxRecDepth 100000 in
theorem rev_all (s : ByteArray) (k : Nat) (h : k < s.size) :
    (s.data.toList.drop k).reverse = (s.data.toList.drop (k + 1)).reverse ++ [s[k]] := by
  rw [List.drop_eq_getElem_cons (i := k) (by simp; omega), List.reverse_cons]
  rfl
set_option maxRecDepth 100000 in
theorem cell_new_oneI (w : World) (v : Value) : ∀ j u, [v][j]? = some u → (w.alloc (.cells #[v] 5)).cell? ((⟨w.heap.size, 0, none⟩ : Addr).add j) = some u := by
  intro j u hj
  match j, hj with
  | 0, hj => simp at hj; subst hj; simp [Addr.add]
set_option maxRecDepth 100000 in
theorem own_emptyI (w : World) : OwnB (w.alloc (.cells #[] 5)) w.heap.size (.slice (some ⟨w.heap.size, 0, none⟩) 0 0) [] :=
  World.ownsRow_lit w #[] 0 (Nat.le_refl _) (Nat.zero_le _) rfl
/-- What one append of a byte leaves. -/
theorem own_pushI {w1 : World} {B : Nat} {v' : Value} {P : List UInt8} {c : UInt8} (h : w1.ownsRow B 5 1 v' (P.length + 1) (bytesV P ++ [.int .u8 (c.toNat : Int)])) : OwnB w1 B v' (P ++ [c]) := by
  unfold OwnB
  rw [bytesV_app]
  simpa [bytesV] using h
set_option maxRecDepth 100000 in
theorem below_pushI {w wr w1 : World} {B : Nat} {v : Value} {P : List UInt8} {o : Obj} (hown : OwnB wr B v P) (hb : Below B w wr) (hB : B ≤ wr.heap.size) (hg : (wr.alloc o).grownBy w1 v.ownBlock) : Below B w w1 :=
  (hb.alloc hB o).grown hg (by simp; omega) (fun k hk => (World.ownsRow.lt hown k hk).1)
set_option maxHeartbeats 400000 in
set_option maxRecDepth 100000 in
theorem rlittle_any (x n : Nat) (w : World) (hx : x < M64) (h1 : n ≤ 2147483647) :
    Calls Tryz.prog 110 #[.int .u64 x, .int .i64 n] w fun e w' => e = .returned (.string ⟨(littleL x n).toArray⟩) ∧ Below w.heap.size w w' := by
  obtain ⟨i0, hi, hz0, hz1, hz2⟩ := info_parts Tryz.info5
  have hst := own_emptyI w
  have hb0 : Below w.heap.size w (w.alloc (.cells #[] 5)) := (Below.refl _ _).alloc (Nat.le_refl _) _
  go_enter Tryz.func110, Tryz.ntmps110
  go_wp2
  go_loopw [0, 5, 6] (fun xv v i wr => ∃ (k y : Nat) (P : List UInt8), y < M64 ∧ k + P.length = n ∧ i = .int .i64 (P.length : Nat) ∧ xv = .int .u64 y ∧ littleL x n = P ++ littleL y k ∧ OwnB wr w.heap.size v P ∧ Below w.heap.size w wr)
    (fun _ _ i _ => n - (intOf i).toNat)
  case atStart => exact ⟨n, x, [], hx, by simp, rfl, rfl, by simp, hst, hb0⟩
  case round =>
    obtain ⟨k, y, P, hy, hk, rfl, rfl, hT, hown, hbr⟩ := hrel
    clear hst hb0
    have HY := hidM hy
    clear hy
    have HT := hidM hT
    clear hT
    have hB := hbr.size
    obtain ⟨p, hp⟩ : ∃ p, p = P.length := ⟨_, rfl⟩
    have HP := hidM hp
    rcases k with _ | k
    · have hconv := conv_own hown
      rw [← hp]
      have hge : ¬ p < n := by omega
      have HF : Hid (littleL x n = P) := by unfold Hid; rw [HT.out]; simp [littleL]
      clear hown HT hp
      go_wp2
      go_ret
      exact ⟨by rw [HF.out]; rfl, hbr⟩
    · rw [← hp]
      have hlt : p < n := by omega
      clear hp
      go_wp2_with (first
        | (at_builtin; refine wpList_append_own _ rfl _ _ 81 rfl w.heap.size 5 i0 (.int .u8 0) 1 1 Tryz.underlying81 hi hz0 hz1 hz2 rfl (by decide) _ _ _ rfl (hown.alloc _) ⟨wr.heap.size, 0, none⟩ 1 1 [.int .u8 ((UInt8.ofNat (y % 256)).toNat : Int)] ?c0 rfl ?c1 ?c2 ?c3 ?c4 ?c5 ?_))
      case c0 => rfl
      case c1 => rw [show ((UInt8.ofNat (y % 256)).toNat : Int) = (y : Int) % 256 by rw [byte_of]; omega]; exact cell_new_oneI wr _
      case c2 => intro u hu; simp at hu; subst hu; rfl
      case c3 => have := HP.out; unfold maxLen; omega
      case c4 => have := HP.out; omega
      case c5 => simp; omega
      intro v' w1 hown' hgrow _
      have HO : Hid (OwnB w1 w.heap.size v' (P ++ [UInt8.ofNat (y % 256)])) := own_pushI (by rw [show ((UInt8.ofNat (y % 256)).toNat : Int) = (y : Int) % 256 by rw [byte_of]; omega]; exact hown')
      have HB := hidM (below_pushI hown hbr hB hgrow)
      clear hown' hgrow hown hbr hB
      go_wp2
      go_roundw
      case rel => exact ⟨k, y / 256, P ++ [UInt8.ofNat (y % 256)], by have := HY.out; unfold M64 at *; omega, by simp; omega, val_int (by simp; rw [HP.out]), val_int (by have := HY.out; unfold M64 at this; rw [u64_wrap]; omega), by rw [HT.out]; simp [littleL], HO.out, HB.out⟩
      case measure => simp [intOf]; omega
set_option maxHeartbeats 400000 in
set_option maxRecDepth 100000 in
theorem turn_anyI (s : ByteArray) (w : World) (hs : s.size ≤ 140737488355328) :
    Calls Tryz.prog 109 #[.string s] w fun e w' => e = .returned (.string ⟨s.data.toList.reverse.toArray⟩) ∧ Below w.heap.size w w' := by
  obtain ⟨i0, hi, hz0, hz1, hz2⟩ := info_parts Tryz.info5
  have hst := own_emptyI w
  have hb0 : Below w.heap.size w (w.alloc (.cells #[] 5)) := (Below.refl _ _).alloc (Nat.le_refl _) _
  go_enter Tryz.func109, Tryz.ntmps109
  go_wp2
  go_loopw [3, 4] (fun v i wr => ∃ (k : Nat) (P : List UInt8), k ≤ s.size ∧ P = (s.data.toList.drop k).reverse ∧ i = .int .i64 ((k : Int) - 1) ∧ OwnB wr w.heap.size v P ∧ Below w.heap.size w wr)
    (fun _ i _ => (intOf i + 1).toNat)
  case atStart => exact ⟨s.size, [], Nat.le_refl _, by rw [List.drop_of_length_le (by simp)]; rfl, rfl, hst, hb0⟩
  case round =>
    obtain ⟨k, P, hk, hP, rfl, hown, hbr⟩ := hrel
    clear hst hb0
    have HP := hidM hP
    have hB := hbr.size
    rcases k with _ | k
    · have hconv := conv_own hown
      have HF : Hid (s.data.toList.reverse = P) := by unfold Hid; rw [HP.out]; rfl
      clear hown HP hP
      go_wp2
      go_ret
      exact ⟨by rw [HF.out]; rfl, hbr⟩
    · have hks : k < s.size := by omega
      have e1 : ((k + 1 : Nat) : Int) - 1 = (k : Int) := by omega
      simp only [e1]
      have hl : P.length + k + 1 = s.size := by rw [hP]; simp; omega
      have HL := hidM hl
      clear e1 hP hl
      go_wp2_with (first
        | (at_builtin; refine wpList_append_own _ rfl _ _ 81 rfl w.heap.size 5 i0 (.int .u8 0) 1 1 Tryz.underlying81 hi hz0 hz1 hz2 rfl (by decide) _ _ _ rfl (hown.alloc _) ⟨wr.heap.size, 0, none⟩ 1 1 [.int .u8 (s[k].toNat : Int)] ?c0 rfl ?c1 ?c2 ?c3 ?c4 ?c5 ?_))
      case c0 => rfl
      case c1 => exact cell_new_oneI wr _
      case c2 => intro u hu; simp at hu; subst hu; rfl
      case c3 => have := HL.out; unfold maxLen; omega
      case c4 => have := HL.out; omega
      case c5 => simp; omega
      intro v' w1 hown' hgrow _
      have HO := hidM (own_pushI hown')
      have HB := hidM (below_pushI hown hbr hB hgrow)
      clear hown' hgrow hown hbr hB
      go_wp2
      go_roundw
      case rel => exact ⟨k, P ++ [s[k]], by omega, by rw [HP.out, rev_all s k hks], by go_num, HO.out, HB.out⟩
      case measure => simp [intOf]
set_option maxHeartbeats 400000 in
set_option maxRecDepth 100000 in
theorem rbig_any (x n : Nat) (w : World) (hx : x < M64) (h1 : n ≤ 2147483647) :
    Calls Tryz.prog 58 #[.int .u64 x, .int .i64 n] w fun e w' => e = .returned (.string ⟨(bigL x n).toArray⟩) ∧ Below w.heap.size w w' := by
  go_enter Tryz.func58, Tryz.ntmps58
  go_wp2_with fail
  refine (rlittle_any x n _ hx h1).mono ?_
  rintro e w1 ⟨rfl, hb1⟩
  go_wp2_with fail
  refine (turn_anyI _ _ (by show (littleL x n).toArray.size ≤ _; simp [littleL_len]; omega)).mono ?_
  rintro e w2 ⟨rfl, hb2⟩
  have hb3 : Below w.heap.size w w2 := hb1.trans (hb2.mono hb1.size)
  clear hb1 hb2
  go_wp2
  go_ret
  exact ⟨rfl, hb3⟩
set_option maxHeartbeats 800000 in
set_option maxRecDepth 100000 in
theorem radler_any (s : ByteArray) (w : World) (hs : s.size ≤ maxLen) :
    Calls Tryz.prog 59 #[.string s] w fun e w' => e = .returned (.int .u32 (adSum s.data.toList : Nat)) ∧ w' = w := by
  unfold maxLen at hs
  go_enter Tryz.func59, Tryz.ntmps59
  go_wp2
  go_loop [3, 4, 5] (fun x y i => ∃ (k p q : Nat), k ≤ s.size ∧ i = .int .i64 k ∧ x = .int .i64 p ∧ y = .int .i64 q ∧ p < 65521 ∧ q < 65521 ∧ (p, q) = adR (1, 0) (s.data.toList.take k)) (fun _ _ i => s.size - (intOf i).toNat)
  case atStart => exact ⟨0, 1, 0, Nat.zero_le _, rfl, rfl, rfl, by omega, by omega, rfl⟩
  case round =>
    obtain ⟨k, p, q, hk, rfl, rfl, rfl, hp, hq, hr⟩ := hrel
    have HR := hidM hr
    clear hr
    by_cases hlt : k < s.size
    · have hb := byte_lt s[k]
      have HD : Hid (((p + s[k].toNat) % 65521, (q + (p + s[k].toNat) % 65521) % 65521) = adR (1, 0) (s.data.toList.take (k + 1))) := by
        unfold Hid; rw [adR_take (1, 0) s k hlt, ← HR.out]; rfl
      go_wp2
      go_round
      case rel => exact ⟨k + 1, _,_, by omega, by go_num, val_int (by omega), val_int (by omega), by omega, by omega, HD.out⟩
      case measure => simp [intOf]; omega
    · have HE : Hid (adSum s.data.toList = q * 65536 + p) := by
        have : adR (1, 0) s.data.toList = (p, q) := by rw [HR.out, List.take_of_length_le (by simp; omega)]
        unfold Hid adSum; rw [this]
      go_wp2
      go_ret
      exact ⟨ret_int (by rw [HE.out]; omega), rfl⟩
end Go.Proofs.YtddoemeellbhaaaGreatDoor
namespace Go.Proofs.YtddoemeellbhaaaGreatDoor
open Go.RowKit
/-- A slice whose first 'len' cells hold the strings f. -/
def StrsAt (w : World) (a : Option Addr) (len : Nat) (f : Nat → ByteArray) : Prop :=
  len ≤ maxLen ∧ (len = 0 ∨ ∃ b off, a = some ⟨b, off, none⟩ ∧ ∀ i, i < len → w.cell? ⟨b, off + i, none⟩ = some (.string (f i)))
theorem StrsAt.below {w w' : World} {a : Option Addr} {len : Nat} {f : Nat → ByteArray} (h : StrsAt w a len f) (hb : Below w.heap.size w w') : StrsAt w' a len f := by
  refine ⟨h.1, ?_⟩
  rcases h.2 with h0 | ⟨b, off, rfl, hc⟩
  · exact .inl h0
  · exact .inr ⟨b, off, rfl, fun i hi => (hb.cell (p := ⟨b, off + i, none⟩) (World.block_lt_of_cell? w _ (hc i hi))).trans (hc i hi)⟩
theorem StrsAt.get {w : World} {a : Option Addr} {len : Nat} {f : Nat → ByteArray} (h : StrsAt w a len f) (i : Nat) (hi : i < len) : ∃ b off, a = some ⟨b, off, none⟩ ∧ w.cell? ⟨b, off + i, none⟩ = some (.string (f i)) := by
  rcases h.2 with h0 | ⟨b, off, rfl, hc⟩
  · omega
  · exact ⟨b, off, rfl, hc i hi⟩
/-- A slice whose first 'len' cells hold the answers g. -/
def BoolsAt (w : World) (a : Option Addr) (len : Nat) (g : Nat → Bool) : Prop :=
  len ≤ maxLen ∧ (len = 0 ∨ ∃ b off, a = some ⟨b, off, none⟩ ∧ ∀ i, i < len → w.cell? ⟨b, off + i, none⟩ = some (.bool (g i)))
theorem BoolsAt.below {w w' : World} {a : Option Addr} {len : Nat} {g : Nat → Bool} (h : BoolsAt w a len g) (hb : Below w.heap.size w w') : BoolsAt w' a len g := by
  refine ⟨h.1, ?_⟩
  rcases h.2 with h0 | ⟨b, off, rfl, hc⟩
  · exact .inl h0
  · exact .inr ⟨b, off, rfl, fun i hi => (hb.cell (p := ⟨b, off + i, none⟩) (World.block_lt_of_cell? w _ (hc i hi))).trans (hc i hi)⟩
theorem BoolsAt.get {w : World} {a : Option Addr} {len : Nat} {g : Nat → Bool} (h : BoolsAt w a len g) (i : Nat) (hi : i < len) : ∃ b off, a = some ⟨b, off, none⟩ ∧ w.cell? ⟨b, off + i, none⟩ = some (.bool (g i)) := by
  rcases h.2 with h0 | ⟨b, off, rfl, hc⟩
  · omega
  · exact ⟨b, off, rfl, hc i hi⟩
/-- a text cut to n bytes -/
def fewBI (s : ByteArray) (n : Nat) : ByteArray := if n < s.size then s.extract 0 n else s
theorem fewB_sizeI (s : ByteArray) (n : Nat) : (fewBI s n).size ≤ n := by
  unfold fewBI
  split
  · rw [ByteArray.size_extract]; omega
  · omega
set_option maxHeartbeats 400000 in
set_option maxRecDepth 100000 in
theorem fewF_any (s : ByteArray) (n : Nat) (w : World) : Calls Tryz.prog 9 #[.string s, .int .i64 n] w fun e w' => e = .returned (.string (fewBI s n)) ∧ w' = w := by
  go_enter Tryz.func9, Tryz.ntmps9
  by_cases h : n < s.size
  · have k : (n : Int) < (s.size : Int) := by omega
    have k2 : (n : Int) ≤ (s.size : Int) := by omega
    have HF : Hid (fewBI s n = s.extract 0 n) := by unfold Hid fewBI; rw [if_pos h]
    go_wp2
    go_ret
    exact ⟨by rw [HF.out]; rfl, rfl⟩
  · have k : ¬ (n : Int) < (s.size : Int) := by omega
    have HF : Hid (fewBI s n = s) := by unfold Hid fewBI; rw [if_neg h]
    go_wp2
    go_ret
    exact ⟨by rw [HF.out]; rfl, rfl⟩
/-- one frame of a text: of itself, or of its frame -/
def FrmP (p : Bool) (x t : List UInt8) : Prop := (p = true ∧ FrameOf x t ∧ x.length ≤ 11 + t.length) ∨ (p = false ∧ ∃ x1, FrameOf x1 t ∧ FrameOf x x1 ∧ x1.length ≤ 11 + t.length ∧ x.length ≤ 22 + t.length)
/-- the frames from number k on -/
inductive RestF (p : Nat → Bool) (t : Nat → List UInt8) (n : Nat) : Nat → List UInt8 → Prop where
  | done : RestF p t n n []
  | more (k : Nat) (x r : List UInt8) (hk : k < n) (h : FrmP (p k) x (t k)) (hr : RestF p t n (k + 1) r) : RestF p t n k (x ++ r)
theorem RestF.nil {p : Nat → Bool} {t : Nat → List UInt8} {n k : Nat} {r : List UInt8} (h : RestF p t n k r) (hk : ¬ k < n) : r = [] := by
  cases h with
  | done => rfl
  | more _ x r hk2 _ _ => exact absurd hk2 hk
theorem RestF.next {p : Nat → Bool} {t : Nat → List UInt8} {n k : Nat} {r : List UInt8} (h : RestF p t n k r) (hk : k < n) : ∃ x r', r = x ++ r' ∧ FrmP (p k) x (t k) ∧ RestF p t n (k + 1) r' := by
  cases h with
  | done => omega
  | more _ x r _ h hr => exact ⟨x, r, rfl, h, hr⟩
theorem frame_plain (s : List UInt8) (h : s.length < 65536) : FrameOf (plainLI s) s ∧ (plainLI s).length ≤ 11 + s.length := by
  refine ⟨⟨storedB 1 s, tells_stored s h, by rw [storedB_len]; exact Nat.le_refl _, rfl⟩, ?_⟩
  unfold plainLI
  simp only [List.length_append, List.length_cons, List.length_nil, storedB_len, zsum_len]
  omega
end Go.Proofs.YtddoemeellbhaaaGreatDoor
namespace Go.Proofs.YtddoemeellbhaaaGreatDoor
open Go.RowKit
theorem cv78 {b : Nat} {V : World} (h : V.heap[b]? = some (.cells #[.int .u8 120, .int .u8 1] 5)) :
    (convert 81 9 (.slice (some ⟨b, 0, none⟩) 2 2)).run Tryz.prog V = .ok (.string ⟨#[120, 1]⟩) V := by
  refine run_convert_bytes_back V 81 9 5 ⟨b, 0, none⟩ 2 [120, 1] Tryz.underlying81 Tryz.underlying5 Tryz.underlying9 ?_
  intro j hj
  have h2 : j = 0 ∨ j = 1 := by simp at hj; omega
  rcases h2 with rfl | rfl <;> simp [World.cell?, h, Addr.add]
theorem cv78_keep {b : Nat} {V w5 : World} (hb : Below V.heap.size V w5) (h : V.heap[b]? = some (.cells #[.int .u8 120, .int .u8 1] 5)) :
    w5.heap[b]? = some (.cells #[.int .u8 120, .int .u8 1] 5) := by
  rw [hb.block b (by rcases Nat.lt_or_ge b V.heap.size with h1 | h1; exact h1; rw [Array.getElem?_eq_none h1] at h; cases h)]
  exact h
theorem below_step {w V w5 : World} (h0 : Below w.heap.size w V) (h : Below V.heap.size V w5) : Hid (Below w.heap.size w w5) := h0.trans (h.mono h0.size)
set_option maxHeartbeats 4000000 in
set_option maxRecDepth 100000 in
theorem rframe_any (x s : ByteArray) (w : World) (hs : s.size ≤ 65535) (hx : x.size ≤ 70000) :
    Calls Tryz.prog 27 #[.string x, .string s] w fun e w' => e = .returned (.string ⟨(([120, 1] : List UInt8) ++ x.data.toList ++ zsum s.data.toList).toArray⟩) ∧ Below w.heap.size w w' := by
  obtain ⟨S, hS⟩ : ∃ S, S = adSum s.data.toList := ⟨_, rfl⟩
  have HA : Hid (∀ V : World, Calls Tryz.prog 59 #[.string s] V fun e w' => e = .returned (.int .u32 (S : Int)) ∧ w' = V) := fun V => by rw [hS]; exact radler_any s V (by unfold maxLen; omega)
  have hS32 : S < 4294967296 := by rw [hS]; exact adSum_lt _
  have HF : Hid (zsum s.data.toList = bigL S 4) := by rw [hS]; rfl
  clear hS
  have u1 : IntKind.u64.wrap (S : Int) = (S : Int) := by rw [IntKind.wrap_u64]; omega
  obtain ⟨Y, hY⟩ : ∃ Y : ByteArray, Y = ⟨(bigL S 4).toArray⟩ := ⟨_, rfl⟩
  have hY4 : Y.size ≤ 4 := by
    have : Y.data.toList.length = Y.size := Array.length_toList
    rw [← this, hY]; show (bigL S 4).length ≤ 4; rw [bigL_len]; exact Nat.le_refl _
  have HB : Hid (∀ V : World, Calls Tryz.prog 58 #[.int .u64 (S : Int), .int .i64 4] V fun e w' => e = .returned (.string Y) ∧ Below V.heap.size V w') := fun V => by rw [hY]; exact rbig_any S 4 V (by unfold M64; omega) (by omega)
  obtain ⟨Q, hQ⟩ : ∃ Q : ByteArray, (⟨#[120, 1]⟩ ++ x : ByteArray) = Q := ⟨_, rfl⟩
  have hqs : Q.size ≤ 70002 := by rw [← hQ, ByteArray.size_append]; show 2 + x.size ≤ 70002; omega
  have HT : Hid ((Q ++ Y : ByteArray) = ⟨(([120, 1] : List UInt8) ++ x.data.toList ++ zsum s.data.toList).toArray⟩) := by
    refine bytes_ext ?_
    rw [str_add, ← hQ, str_add, hY, HF.out]
  clear HF hY
  have hcv : ∀ W : World, (convert 81 9 (.slice (some ⟨W.heap.size, 0, none⟩) 2 2)).run Tryz.prog (W.alloc (.cells #[.int .u8 120, .int .u8 1] 5)) = .ok (.string ⟨#[120, 1]⟩) (W.alloc (.cells #[.int .u8 120, .int .u8 1] 5)) := fun W => cv78 (heap_alloc_new W _)
  have hcd : ∀ W : World, (convert 81 9 (.slice (some ⟨W.heap.size, 0, none⟩) 2 2)).run Tryz.prog (W.alloc (.cells #[.int .u8 120, .int .u8 1] 5)).drew = .ok (.string ⟨#[120, 1]⟩) (W.alloc (.cells #[.int .u8 120, .int .u8 1] 5)).drew := fun W => cv78 (heap_alloc_new W _)
  have n1 : ¬ 9223372036854775807 < 2 + x.size := by omega
  have n2 : ¬ 9223372036854775807 < Q.size + Y.size := by omega
  go_enter Tryz.func27, Tryz.ntmps27
  go_wp2_with fail
  go_region_with
      (first
        | (go_at_call 59; with_reducible refine (HA.out _).mono ?_; rintro e w6 ⟨rfl, h6⟩; rw [h6]; clear h6 w6)
        | (go_at_call 58; with_reducible refine (HB.out _).mono ?_; rintro e w5 ⟨rfl, HUP⟩; (first | (have hc5 := cv78 (cv78_keep HUP (heap_alloc_new w _))) | skip); have HK := below_step (w := w) (by repeat (first | exact Below.refl _ _ | apply Below.drew | apply below_drewN | exact (Below.refl _ _).alloc (Nat.le_refl _) _)) HUP; clear HUP))
  all_goals go_wp2
  all_goals go_ret
  all_goals first
    | exact ⟨congrArg (fun z => Ending.returned (.string z)) HT.out, HK.out⟩
    | exact ⟨congrArg (fun z => Ending.returned (.string z)) HT.out, HK.out.alloc HK.out.size _⟩
    | trace_state
end Go.Proofs.YtddoemeellbhaaaGreatDoor
