/-
  Walks of the document's rows of bits, in this seat: Number, Bits, Turn.
-/
import Derived.Test.YtpidofgmbjkbiaaBitC
import Derived.Test.YtpidofgmbjkbiaaHufR
namespace Go.Proofs.Ytpidofgmbjkbiaa
open Go.RowKit

theorem Try.info4 : (Try.prog.info? 4).map (fun i => (i.zero, i.size, i.bytes)) = some (some (.bool false), 1, 1) := by kernel_rfl
def boolsV (l : List Bool) : List Value := l.map Value.bool
theorem boolsV_len (l : List Bool) : (boolsV l).length = l.length := by simp [boolsV]
theorem boolsV_app (l m : List Bool) : boolsV (l ++ m) = boolsV l ++ boolsV m := by simp [boolsV]
theorem boolsV_at (l : List Bool) (j : Nat) (h : j < l.length) : (boolsV l)[j]? = some (.bool l[j]) := by simp [boolsV, h]
/-- The value v owns just the bits l. -/
def OwnL (w : World) (base : Nat) (v : Value) (l : List Bool) : Prop := w.ownsRow base 4 1 v l.length (boolsV l)
theorem ownL_empty (w : World) : OwnL (w.alloc (.cells #[] 4)) w.heap.size (.slice (some ⟨w.heap.size, 0, none⟩) 0 0) [] :=
  World.ownsRow_lit w #[] 0 (Nat.le_refl _) (Nat.zero_le _) rfl
theorem ownL_push {w1 : World} {B : Nat} {v' : Value} {P : List Bool} {c : Bool} (h : w1.ownsRow B 4 1 v' (P.length + 1) (boolsV P ++ [.bool c])) : OwnL w1 B v' (P ++ [c]) := by
  unfold OwnL
  rw [boolsV_app]
  simpa [boolsV] using h
theorem belowL_push {w wr w1 : World} {B : Nat} {v : Value} {P : List Bool} {o : Obj} (hown : OwnL wr B v P) (hb : Below B w wr) (hB : B ≤ wr.heap.size) (hg : (wr.alloc o).grownBy w1 v.ownBlock) : Below B w w1 :=
  (hb.alloc hB o).grown hg (by simp; omega) (fun k hk => (World.ownsRow.lt hown k hk).1)
theorem cell_new_bit (w : World) (v : Value) : ∀ j u, [v][j]? = some u → (w.alloc (.cells #[v] 4)).cell? ((⟨w.heap.size, 0, none⟩ : Addr).add j) = some u := by
  intro j u hj
  match j, hj with
  | 0, hj => simp at hj; subst hj; simp [Addr.add]
/-- A row of bits that is read. -/
def BAt (w : World) (a : Option Addr) (l : List Bool) : Prop :=
  l = [] ∨ ∃ b off, a = some ⟨b, off, none⟩ ∧ ∀ i (h : i < l.length), w.cell? ⟨b, off + i, none⟩ = some (.bool l[i])
theorem BAt.get {w : World} {a : Option Addr} {l : List Bool} (h : BAt w a l) (i : Nat) (hi : i < l.length) : ∃ b off, a = some ⟨b, off, none⟩ ∧ w.cell? ⟨b, off + i, none⟩ = some (.bool l[i]) := by
  rcases h with h0 | ⟨b, off, rfl, hc⟩
  · subst h0; simp at hi
  · exact ⟨b, off, rfl, hc i hi⟩
theorem BAt.below {w w' : World} {a : Option Addr} {l : List Bool} (h : BAt w a l) (hb : Below w.heap.size w w') : BAt w' a l := by
  rcases h with h0 | ⟨b, off, rfl, hc⟩
  · exact .inl h0
  · exact .inr ⟨b, off, rfl, fun i hi => (hb.cell (p := ⟨b, off + i, none⟩) (World.block_lt_of_cell? w _ (hc i hi))).trans (hc i hi)⟩
/-- What a value that owns bits looks like to a reader. -/
theorem OwnL.bat {w : World} {B : Nat} {v : Value} {l : List Bool} (h : OwnL w B v l) : ∃ a cap, v = .slice a l.length cap ∧ BAt w a l := by
  rcases h.2 with ⟨rfl, hn⟩ | ⟨g, cap, cur, rfl, hb, hg, hnc, hcm, hcs, htake⟩
  · exact ⟨none, 0, by rw [hn], .inl (List.eq_nil_of_length_eq_zero hn)⟩
  · refine ⟨_, cap, rfl, .inr ⟨g, 0, rfl, fun i hi => ?_⟩⟩
    have := World.ownsRow.cells (g := g) h rfl i _ (boolsV_at l i hi)
    rwa [Addr.add_lit] at this
theorem OwnL.below {w w' : World} {B : Nat} {v : Value} {l : List Bool} (h : OwnL w B v l) (hb : Below w.heap.size w w') : OwnL w' B v l := by
  refine ⟨h.1, ?_⟩
  rcases h.2 with h0 | ⟨g, cap, cur, hv, hg, hc, hr⟩
  · exact .inl h0
  · exact .inr ⟨g, cap, cur, hv, hg, by rw [hb.block g ((Array.getElem?_eq_some_iff.1 hc).1)]; exact hc, hr⟩

/-- The same, and the value is not nil. -/
def OwnS (w : World) (B : Nat) (v : Value) (l : List Bool) : Prop := OwnL w B v l ∧ ∃ g c, v = .slice (some ⟨g, 0, none⟩) l.length c
theorem ownS_empty (w : World) : OwnS (w.alloc (.cells #[] 4)) w.heap.size (.slice (some ⟨w.heap.size, 0, none⟩) 0 0) [] := ⟨ownL_empty w, _, _, rfl⟩
theorem ownS_push {w1 : World} {B : Nat} {v' : Value} {P : List Bool} {c : Bool} (h : w1.ownsRow B 4 1 v' (P.length + 1) (boolsV P ++ [.bool c])) : OwnS w1 B v' (P ++ [c]) := by
  refine ⟨ownL_push h, ?_⟩
  rcases h.2 with ⟨_, hn⟩ | ⟨g, cap, cur, hv, _⟩
  · omega
  · exact ⟨g, cap, by rw [hv, List.length_append]; rfl⟩

set_option maxHeartbeats 400000 in
theorem number_any (a : Option Addr) (cap : Nat) (l : List Bool) (w : World) (hl : l.length ≤ 1000000000) (h : BAt w a l) :
    Calls Try.prog 15 #[.slice a l.length cap] w fun e w' => e = .returned (.int .u32 ((nb l % 4294967296 : Nat) : Int)) ∧ w' = w := by
  have H := hidM h
  clear h
  obtain ⟨L, hL⟩ : ∃ L, L = l.length := ⟨_, rfl⟩
  have HL := hidM hL
  rw [← hL] at hl
  rw [← hL]
  clear hL
  go_enter Try.func15, Try.ntmps15
  go_wp2
  go_loop [3, 4] (fun x i => ∃ k : Nat, k ≤ L ∧ i = .int .i64 ((k : Int) - 1) ∧ x = .int .u32 ((nb (l.drop k) % 4294967296 : Nat) : Int)) (fun _ i => (intOf i + 1).toNat)
  case atStart => exact ⟨L, Nat.le_refl _, rfl, val_int (by rw [List.drop_of_length_le (by rw [HL.out]; exact Nat.le_refl _)]; rfl)⟩
  case round =>
    obtain ⟨k, hk, rfl, rfl⟩ := hrel
    rcases k with _ | k
    · go_wp2
      go_ret
      exact ⟨ret_int (by simp), rfl⟩
    · have hkl : k < l.length := by rw [← HL.out]; omega
      have e1 : ((k + 1 : Nat) : Int) - 1 = (k : Int) := by omega
      simp only [e1]
      clear e1
      obtain ⟨b, off, rfl, hc⟩ := H.out.get k hkl
      have HS : Hid (nb (l.drop k) = l[k].toNat + 2 * nb (l.drop (k + 1))) := by unfold Hid; rw [List.drop_eq_getElem_cons hkl, nb]
      have hkL : k < L := by omega
      generalize l[k] = c at *
      generalize nb (l.drop (k + 1)) = y at *
      cases c
      · go_wp2
        go_round
        case rel => exact ⟨k, by omega, by go_num, val_int (by rw [HS.out]; simp; omega)⟩
        case measure => simp [intOf]
      · go_wp2
        go_round
        case rel => exact ⟨k, by omega, by go_num, val_int (by rw [HS.out]; simp; omega)⟩
        case measure => simp [intOf]

theorem bit_of (c : UInt8) (k : Nat) : (bits .and .u8 ((c.toNat : Int) / 2 ^ k) 1 == 1) = (c.toNat / 2 ^ k % 2 == 1) := by
  have h := byte_lt c
  have e : (c.toNat : Int) / 2 ^ k = ((c.toNat / 2 ^ k : Nat) : Int) := by simp
  have h2 : c.toNat / 2 ^ k < 256 := Nat.lt_of_le_of_lt (Nat.div_le_self _ _) h
  rw [e, show (1 : Int) = ((1 : Nat) : Int) from rfl, u8_and_nat _ _ h2 (by decide), Nat.and_one_is_mod]
  generalize c.toNat / 2 ^ k % 2 = r
  by_cases hr : r = 1
  · subst hr; rfl
  · have h1 : (r == 1) = false := by simpa using hr
    have h2 : ((r : Int) == ((1 : Nat) : Int)) = false := by simp; omega
    rw [h1, h2]

theorem bitsL_part (s : ByteArray) (i : Nat) (hi : i < s.size) : bitsL (s.data.toList.take (i + 1)) = bitsL (s.data.toList.take i) ++ bits8 s[i] := by
  rw [List.take_succ_eq_append_getElem (by simpa using hi), bitsL_app, show bitsL [s.data.toList[i]'(by simpa using hi)] = bits8 s[i] ++ [] from rfl, List.append_nil]

set_option maxHeartbeats 1000000 in
theorem rbits_any (s : ByteArray) (w : World) (hs : s.size ≤ 1000000000) :
    Calls Try.prog 19 #[.string s] w fun e w' => (∃ v, e = .returned v ∧ OwnS w' w.heap.size v (bitsL s.data.toList)) ∧ Below w.heap.size w w' := by
  obtain ⟨i0, hi, hz0, hz1, hz2⟩ := info_parts Try.info4
  have HST := hidM (ownS_empty w)
  have HB0 : Hid (Below w.heap.size w (w.alloc (.cells #[] 4))) := (Below.refl _ _).alloc (Nat.le_refl _) _
  go_enter Try.func19, Try.ntmps19
  go_wp2
  go_loopw [3, 4, 5] (fun v i _ wr => ∃ k : Nat, k ≤ s.size ∧ i = .int .i64 k ∧ OwnS wr w.heap.size v (bitsL (s.data.toList.take k)) ∧ Below w.heap.size w wr) (fun _ i _ _ => s.size - (intOf i).toNat)
  case atStart => exact ⟨0, Nat.zero_le _, rfl, HST.out, HB0.out⟩
  case round =>
    obtain ⟨k, hk, rfl, hown, hbr⟩ := hrel
    have HO := hidM hown
    have HB := hidM hbr
    clear hown hbr HST HB0
    by_cases hlt : k < s.size
    · have HLE : Hid ((bitsL (s.data.toList.take k)).length = 8 * k) := by unfold Hid; rw [bitsL_len, List.length_take]; simp; omega
      have HPT := hidM (bitsL_part s k hlt)
      have HBT : Hid (∀ j, (bits .and .u8 ((s[k].toNat : Int) / 2 ^ j) 1 == 1) = (s[k].toNat / 2 ^ j % 2 == 1)) := bit_of s[k]
      go_wp2
      go_loopw [3, 5] (fun v q wr => ∃ j : Nat, j ≤ 8 ∧ q = .int .i64 j ∧ OwnS wr w.heap.size v (bitsL (s.data.toList.take k) ++ (bits8 s[k]).take j) ∧ Below w.heap.size w wr) (fun _ q _ => 8 - (intOf q).toNat)
      case atStart => exact ⟨0, by decide, rfl, by simpa using HO.out, HB.out⟩
      case round =>
        obtain ⟨j, hj, rfl, hown, hbr⟩ := hrel
        clear HO HB
        have HO := hidM hown
        have HB := hidM hbr
        have HPL : Hid ((bitsL (s.data.toList.take k) ++ (bits8 s[k]).take j).length = 8 * k + j) := by
          unfold Hid; rw [List.length_append, HLE.out, List.length_take, bits8_len]; omega
        clear hown hbr
        by_cases hj8 : j < 8
        · have HNX : Hid (bitsL (s.data.toList.take k) ++ (bits8 s[k]).take (j + 1) = (bitsL (s.data.toList.take k) ++ (bits8 s[k]).take j) ++ [(s[k].toNat / 2 ^ j % 2 == 1)]) := by
            unfold Hid; rw [bits8_take _ _ hj8, List.append_assoc]
          have HBJ := hidM (HBT.out j)
          have HBS := hidM HB.out.size
          generalize bitsL (s.data.toList.take k) ++ (bits8 s[k]).take j = P at *
          go_wp2_with (first
            | (at_builtin; refine wpList_append_own _ rfl _ _ 32 rfl w.heap.size 4 i0 (.bool false) 1 1 Try.underlying32 hi hz0 hz1 hz2 rfl (by decide) _ _ _ rfl (World.ownsRow.alloc HO.out.1 _) ⟨wr.heap.size, 0, none⟩ 1 1 [.bool (bits .and .u8 ((s[k].toNat : Int) / 2 ^ j) 1 == 1)] ?c0 rfl ?c1 ?c2 ?c3 ?c4 ?c5 ?_))
          case c0 => rfl
          case c1 => exact cell_new_bit wr _
          case c2 => intro u hu; simp at hu; subst hu; rfl
          case c3 => rw [HPL.out]; unfold maxLen; omega
          case c4 => rw [HPL.out]; omega
          case c5 => have := HBS.out; simp; omega
          intro v' w1 hown' hgrow _
          rw [HBJ.out] at hown'
          have HO1 := hidM (ownS_push hown')
          have HB1 := hidM (belowL_push HO.out.1 HB.out HBS.out hgrow)
          clear hown' hgrow
          go_wp2
          go_roundw
          case rel => exact ⟨j + 1, by omega, by go_num, by rw [HNX.out]; exact HO1.out, HB1.out⟩
          case measure => simp [intOf]; omega
        · have HE : Hid ((bits8 s[k]).take j = bits8 s[k]) := List.take_of_length_le (by rw [bits8_len]; omega)
          rw [HE.out, ← HPT.out] at HO
          go_wp2
          go_roundw
          case rel => exact ⟨k + 1, by omega, by go_num, HO.out, HB.out⟩
          case measure => simp [intOf]; omega
    · have HF : Hid (s.data.toList.take k = s.data.toList) := List.take_of_length_le (by simp; omega)
      go_wp2
      go_ret
      exact ⟨⟨_, rfl, by have := HO.out; rw [HF.out] at this; exact this⟩, HB.out⟩

set_option maxHeartbeats 1000000 in
theorem turn_any (a : Option Addr) (cap : Nat) (l : List Bool) (w : World) (hl : l.length ≤ 1000000000) (h : BAt w a l) :
    Calls Try.prog 16 #[.slice a l.length cap] w fun e w' => (∃ v, e = .returned v ∧ OwnS w' w.heap.size v l.reverse) ∧ Below w.heap.size w w' := by
  obtain ⟨i0, hi, hz0, hz1, hz2⟩ := info_parts Try.info4
  have H := hidM h
  clear h
  have HST := hidM (ownS_empty w)
  have HB0 : Hid (Below w.heap.size w (w.alloc (.cells #[] 4))) := (Below.refl _ _).alloc (Nat.le_refl _) _
  obtain ⟨L, hL⟩ : ∃ L, L = l.length := ⟨_, rfl⟩
  have HL := hidM hL
  rw [← hL] at hl
  rw [← hL]
  clear hL
  go_enter Try.func16, Try.ntmps16
  go_wp2
  go_loopw [3, 4] (fun v i wr => ∃ k : Nat, k ≤ L ∧ i = .int .i64 ((k : Int) - 1) ∧ OwnS wr w.heap.size v (l.drop k).reverse ∧ Below w.heap.size w wr) (fun _ i _ => (intOf i + 1).toNat)
  case atStart => exact ⟨L, Nat.le_refl _, rfl, by rw [List.drop_of_length_le (by rw [HL.out]; exact Nat.le_refl _)]; exact HST.out, HB0.out⟩
  case round =>
    obtain ⟨k, hk, rfl, hown, hbr⟩ := hrel
    have HO := hidM hown
    have HB := hidM hbr
    have HBS := hidM hbr.size
    clear hown hbr HST HB0
    rcases k with _ | k
    · go_wp2
      go_ret
      exact ⟨⟨_, rfl, HO.out⟩, HB.out⟩
    · have hkl : k < l.length := by rw [← HL.out]; omega
      have e1 : ((k + 1 : Nat) : Int) - 1 = (k : Int) := by omega
      simp only [e1]
      clear e1
      obtain ⟨b, off, rfl, hc⟩ := (H.out.below HB.out).get k hkl
      have HS : Hid ((l.drop k).reverse = (l.drop (k + 1)).reverse ++ [l[k]]) := by unfold Hid; rw [List.drop_eq_getElem_cons hkl, List.reverse_cons]
      have HPL : Hid ((l.drop (k + 1)).reverse.length ≤ 1000000000) := by unfold Hid; simp; rw [← HL.out]; omega
      have hkL : k < L := by omega
      generalize l[k] = c at *
      generalize (l.drop (k + 1)).reverse = P at *
      go_wp2_with (first
            | (at_builtin; refine wpList_append_own _ rfl _ _ 32 rfl w.heap.size 4 i0 (.bool false) 1 1 Try.underlying32 hi hz0 hz1 hz2 rfl (by decide) _ _ _ rfl (World.ownsRow.alloc HO.out.1 _) ⟨wr.heap.size, 0, none⟩ 1 1 [.bool c] ?c0 rfl ?c1 ?c2 ?c3 ?c4 ?c5 ?_))
      case c0 => rfl
      case c1 => exact cell_new_bit wr _
      case c2 => intro u hu; simp at hu; subst hu; rfl
      case c3 => have := HPL.out; unfold maxLen; omega
      case c4 => have := HPL.out; omega
      case c5 => have := HBS.out; simp; omega
      intro v' w1 hown' hgrow _
      have HO1 := hidM (ownS_push hown')
      have HB1 := hidM (belowL_push HO.out.1 HB.out HBS.out hgrow)
      clear hown' hgrow
      go_wp2
      go_roundw
      case rel => exact ⟨k, by omega, by go_num, by rw [HS.out]; exact HO1.out, HB1.out⟩
      case measure => simp [intOf]

end Go.Proofs.Ytpidofgmbjkbiaa
