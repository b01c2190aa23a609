/-
  Hexadecimal texts: Unhex. (taken over.)
-/
import Derived.Test.YtmhjdahmmdfbcaaGreatDoorSemA
import Derived.Laws.BitsAllLaws
import Derived.Laws.IdiomStrings
import Derived.Deep.QuietTactic
import Derived.BigQuiet
import Derived.Deep.RegionLaw
import Derived.Laws.AppendOwn
namespace Go.Proofs.YtmhjdahmmdfbcaaGreatDoor
open Go.RowKit

/-- bytes in a row -/
def bytesV (l : List UInt8) : List Value := l.map fun (c : UInt8) => .int .u8 (c.toNat : Int)
theorem bytesV_at (l : List UInt8) (j : Nat) (h : j < l.length) : (bytesV l)[j]? = some (.int .u8 (l[j].toNat : Int)) := by unfold bytesV; simp [h]
set_option maxRecDepth 100000 in
theorem byte_lt (c : UInt8) : c.toNat < 256 := UInt8.toNat_lt c

set_option maxRecDepth 100000 in
theorem Tryz.info5 : (Tryz.prog.info? 5).map (fun i => (i.zero, i.size, i.bytes)) = some (some (.int .u8 0), 1, 1) := by kernel_rfl

set_option maxRecDepth 100000 in
theorem bytesV_app (l m : List UInt8) : bytesV (l ++ m) = bytesV l ++ bytesV m := by simp [bytesV]

/-- The value v owns just the bytes l, in memory from 'base' on. -/
def OwnB (w : World) (base : Nat) (v : Value) (l : List UInt8) : Prop := w.ownsRow base 5 1 v l.length (bytesV l)

set_option maxRecDepth 100000 in
theorem conv_own {w : World} {base : Nat} {v : Value} {l : List UInt8} (h : OwnB w base v l) :
    (convert 71 9 v).run Tryz.prog w = .ok (.string ⟨l.toArray⟩) w := by
  rcases h.2 with ⟨rfl, hn⟩ | ⟨g, cap, cur, rfl, hb, hg, hnc, hcm, hcs, htake⟩
  · have : l = [] := List.eq_nil_of_length_eq_zero hn
    subst this
    rw [run_convert_bytes_string w 71 9 5 none 0 0 Tryz.underlying71 Tryz.underlying5 Tryz.underlying9]
    rfl
  · refine run_convert_bytes_back w 71 9 5 _ cap l Tryz.underlying71 Tryz.underlying5 Tryz.underlying9 ?_
    intro j hj
    have := World.ownsRow.cells (g := g) h rfl j _ (bytesV_at l j hj)
    exact this

set_option maxRecDepth 100000 in
theorem cell_new_one (w : World) (v : Value) : ∀ j u, [v][j]? = some u → (w.alloc (.cells #[v] 5)).cell? ((⟨w.heap.size, 0, none⟩ : Addr).add j) = some u := by
  intro j u hj
  match j, hj with
  | 0, hj => simp at hj; subst hj; simp [Addr.add]

set_option maxRecDepth 100000 in
/-- What one append of a byte leaves. -/
theorem own_push {w1 : World} {B : Nat} {v' : Value} {P : List UInt8} {c : UInt8} (h : w1.ownsRow B 5 1 v' (P.length + 1) (bytesV P ++ [.int .u8 (c.toNat : Int)])) : OwnB w1 B v' (P ++ [c]) := by
  unfold OwnB
  rw [bytesV_app]
  simpa [bytesV] using h

set_option maxRecDepth 100000 in
theorem below_push {w wr w1 : World} {B : Nat} {v : Value} {P : List UInt8} {o : Obj} (hown : OwnB wr B v P) (hb : Below B w wr) (hB : B ≤ wr.heap.size) (hg : (wr.alloc o).grownBy w1 v.ownBlock) : Below B w w1 :=
  (hb.alloc hB o).grown hg (by simp; omega) (fun k hk => (World.ownsRow.lt hown k hk).1)

def isHex (c : UInt8) : Bool := (decide (48 ≤ c.toNat) && decide (c.toNat ≤ 57)) || (decide (97 ≤ c.toNat) && decide (c.toNat ≤ 102))

def hexV (c : UInt8) : Nat := if 48 ≤ c.toNat ∧ c.toNat ≤ 57 then c.toNat - 48 else if 97 ≤ c.toNat ∧ c.toNat ≤ 102 then c.toNat - 87 else 0

set_option maxRecDepth 100000 in
theorem hexV_lt (c : UInt8) : hexV c < 16 := by
  unfold hexV
  split
  · omega
  · split <;> omega

def hexed (l : List UInt8) : Bool := l.all isHex && decide (l.length % 2 = 0)

def pairV (l : List UInt8) (k : Nat) : UInt8 := UInt8.ofNat (hexV (l.getD (2 * k) 0) * 16 + hexV (l.getD (2 * k + 1) 0))

def unhexN (l : List UInt8) (n : Nat) : List UInt8 := (List.range n).map (pairV l)

def unhexL (l : List UInt8) : List UInt8 := unhexN l (l.length / 2)

set_option maxRecDepth 100000 in
theorem unhexN_succ (l : List UInt8) (n : Nat) : unhexN l (n + 1) = unhexN l n ++ [pairV l n] := by simp [unhexN, List.range_succ]

set_option maxRecDepth 100000 in
theorem unhexN_len (l : List UInt8) (n : Nat) : (unhexN l n).length = n := by simp [unhexN]

/-- All places below n hold digits. -/
def DigTo (l : List UInt8) (n : Nat) : Prop := ∀ i, i < n → isHex (l.getD i 0) = true

set_option maxRecDepth 100000 in
theorem digTo_all (l : List UInt8) (h : DigTo l l.length) : l.all isHex = true := by
  rw [List.all_eq_true]
  intro c hc
  obtain ⟨i, hi, rfl⟩ := List.getElem_of_mem hc
  have := h i hi
  rwa [List.getD_eq_getElem?_getD, List.getElem?_eq_getElem hi] at this

set_option maxRecDepth 100000 in
theorem all_digTo (l : List UInt8) (h : l.all isHex = true) : DigTo l l.length := by
  intro i hi
  rw [List.getD_eq_getElem?_getD, List.getElem?_eq_getElem hi]
  exact List.all_eq_true.1 h _ (List.getElem_mem hi)

set_option maxRecDepth 100000 in
theorem getD_at (s : ByteArray) (k : Nat) (h : k < s.size) : s.data.toList.getD k 0 = s[k] := by
  rw [List.getD_eq_getElem?_getD, List.getElem?_eq_getElem (by simpa using h)]
  rfl

set_option maxRecDepth 100000 in
theorem len_size (s : ByteArray) : s.data.toList.length = s.size := by simp

set_option maxRecDepth 100000 in
theorem ret_pair {a b : Int} {k : IntKind} {p q : Bool} (h : a = b) (g : p = q) : Ending.returned (.tuple #[.int k a, .bool p]) = .returned (.tuple #[.int k b, .bool q]) := by rw [h, g]

set_option maxHeartbeats 400000 in
set_option maxRecDepth 100000 in
theorem hexValue_any (c : UInt8) (w : World) :
    Calls Tryz.prog 89 #[.int .u8 (c.toNat : Int)] w fun e w' => e = .returned (.tuple #[.int .u8 (hexV c : Nat), .bool (isHex c)]) ∧ w' = w := by
  have hc := byte_lt c
  by_cases h1 : 48 ≤ c.toNat ∧ c.toNat ≤ 57
  · have HV : Hid (hexV c = c.toNat - 48) := by unfold Hid hexV; rw [if_pos h1]
    have HD : Hid (isHex c = true) := by unfold Hid isHex; simp [h1]
    obtain ⟨a1, a2⟩ := h1
    generalize c.toNat = n at *
    go_enter Tryz.func89, Tryz.ntmps89
    go_wp2
    go_ret2
    exact ⟨ret_pair (by rw [HV.out]; omega) HD.out.symm, rfl⟩
  · by_cases h2 : 97 ≤ c.toNat ∧ c.toNat ≤ 102
    · have HV : Hid (hexV c = c.toNat - 87) := by unfold Hid hexV; rw [if_neg h1, if_pos h2]
      have HD : Hid (isHex c = true) := by unfold Hid isHex; simp [h2]
      obtain ⟨a1, a2⟩ := h2
      clear h1
      generalize c.toNat = n at *
      have g1 : ¬ n ≤ 57 := by omega
      go_enter Tryz.func89, Tryz.ntmps89
      go_wp2
      go_ret2
      exact ⟨ret_pair (by rw [HV.out]; omega) HD.out.symm, rfl⟩
    · have HV : Hid (hexV c = 0) := by unfold Hid hexV; rw [if_neg h1, if_neg h2]
      have HD : Hid (isHex c = false) := by unfold Hid isHex; simp; omega
      have hcases : c.toNat < 48 ∨ (57 < c.toNat ∧ c.toNat < 97) ∨ 102 < c.toNat := by omega
      clear h1 h2
      generalize c.toNat = n at *
      rcases hcases with g | ⟨g1, g2⟩ | g
      · have g3 : n < 97 := by omega
        go_enter Tryz.func89, Tryz.ntmps89
        go_wp2
        go_ret2
        exact ⟨ret_pair (by rw [HV.out]; rfl) HD.out.symm, rfl⟩
      · go_enter Tryz.func89, Tryz.ntmps89
        go_wp2
        go_ret2
        exact ⟨ret_pair (by rw [HV.out]; rfl) HD.out.symm, rfl⟩
      · go_enter Tryz.func89, Tryz.ntmps89
        go_wp2
        go_ret2
        exact ⟨ret_pair (by rw [HV.out]; rfl) HD.out.symm, rfl⟩

set_option maxRecDepth 100000 in
theorem hexed_yes (l : List UInt8) (hd : DigTo l l.length) : hexed l = decide (l.length % 2 = 0) := by
  unfold hexed; rw [digTo_all l hd]; rfl

set_option maxRecDepth 100000 in
theorem or4 (a b : Nat) (ha : a < 16) (hb : b < 16) : bits .or .u8 ((a : Int) * 16) (b : Int) = ((a * 16 + b : Nat) : Int) := by
  rw [show (a : Int) * 16 = ((a * 16 : Nat) : Int) by omega, u8_or_nat _ _ (by omega) (by omega), nat_join 4 _ _ (by omega) (by omega)]

set_option maxHeartbeats 1600000 in
set_option maxRecDepth 100000 in
theorem unhex_yes (s : ByteArray) (w : World) (hs : s.size ≤ 1048576) (hh : hexed s.data.toList = true) :
    Calls Tryz.prog 59 #[.string s] w fun e w' => e = .returned (.tuple #[.string ⟨(unhexL s.data.toList).toArray⟩, .bool true]) ∧ Below w.heap.size w w' := by
  obtain ⟨i0, hi, hz0, hz1, hz2⟩ := info_parts Tryz.info5
  unfold hexed at hh
  rw [Bool.and_eq_true] at hh
  have HD := hidM (all_digTo _ hh.1)
  have hev : s.size % 2 = 0 := by have := hh.2; rw [len_size] at this; exact of_decide_eq_true this
  clear hh
  obtain ⟨m, hm⟩ : ∃ m, s.size = 2 * m := ⟨s.size / 2, by omega⟩
  have HM := hidM hm
  have hm1 : s.size ≤ 2 * m := by omega
  have hm2 : 2 * m ≤ s.size := by omega
  have hz : ((s.size : Int) % 2 != 0) = false := by simp; omega
  clear hm hev
  go_enter Tryz.func59, Tryz.ntmps59
  go_wp2_with (at_make; refine wpList_make_own _ rfl _ _ 71 rfl w.heap.size 5 i0 (.int .u8 0) 1 Tryz.underlying71 hi hz0 hz1 .i64 .i64 _ m rfl rfl ?c0 ?c1 ?c2 ?c3 ?_)
  case c0 => omega
  case c1 => rw [hz2]; omega
  case c2 => unfold maxLen; omega
  case c3 => exact Nat.le_refl _
  intro w1 hown hgrow
  have hbel : Below w.heap.size w w1 := (Below.refl _ _).grown hgrow (Nat.le_refl _) (by intro k hk; cases hk)
  have hown2 : OwnB w1 w.heap.size (.slice (some ⟨w.heap.size, 0, none⟩) 0 m) [] := hown
  clear hown hgrow
  go_wp2
  go_loopw [4, 5, 6, 7, 8, 9] (fun v i _ _ _ _ wr => ∃ (k : Nat) (P : List UInt8), k ≤ m ∧ i = .int .i64 ((2 * k : Nat) : Int) ∧ P = unhexN s.data.toList k ∧ OwnB wr w.heap.size v P ∧ Below w.heap.size w wr) (fun _ i _ _ _ _ _ => s.size - (intOf i).toNat)
  case atStart => exact ⟨0, [], Nat.zero_le _, rfl, rfl, hown2, hbel⟩
  case round =>
    obtain ⟨k, P, hk, rfl, hP, hownr, hbr⟩ := hrel
    clear hown2 hbel
    have HP := hidM hP
    have hB := hbr.size
    by_cases hlt : k < m
    · have hl : P.length = k := by rw [hP, unhexN_len]
      have HL := hidM hl
      have k1 : 2 * k < s.size := by omega
      have k2 : 2 * k + 1 < s.size := by omega
      obtain ⟨c, hc⟩ : ∃ c, c = s[2 * k] := ⟨_, rfl⟩
      obtain ⟨d, hd⟩ : ∃ d, d = s[2 * k + 1] := ⟨_, rfl⟩
      have gc : s.data.toList.getD (2 * k) 0 = c := by rw [getD_at s _ k1, hc]
      have gd : s.data.toList.getD (2 * k + 1) 0 = d := by rw [getD_at s _ k2, hd]
      have dc : isHex c = true := by rw [← gc]; exact HD.out _ (by rw [len_size]; omega)
      have dd : isHex d = true := by rw [← gd]; exact HD.out _ (by rw [len_size]; omega)
      have HV : Hid (unhexN s.data.toList (k + 1) = P ++ [UInt8.ofNat (hexV c * 16 + hexV d)]) := by
        unfold Hid; rw [unhexN_succ, ← hP]; unfold pairV; rw [gc, gd]
      have rc : (s[2 * k].toNat : Int) = (c.toNat : Int) := by rw [hc]
      have rd : (s[2 * k + 1].toNat : Int) = (d.toNat : Int) := by rw [hd]
      clear hc hd gc gd hP hl
      have b1 := hexV_lt c
      have b2 := hexV_lt d
      go_wp2_with fail
      refine (hexValue_any c wr).mono ?_
      rintro e wr' ⟨rfl, rfl⟩
      go_wp2_with fail
      refine (hexValue_any d wr').mono ?_
      rintro e wr ⟨rfl, rfl⟩
      have HE : Hid (((hexV c * 16 + hexV d : Nat) : Int) = ((UInt8.ofNat (hexV c * 16 + hexV d)).toNat : Int)) := by unfold Hid; simp; omega
      have ho : bits .or .u8 ((hexV c : Int) * 16) (hexV d : Int) = ((hexV c * 16 + hexV d : Nat) : Int) := or4 _ _ b1 b2
      rw [HE.out] at ho
      generalize UInt8.ofNat (hexV c * 16 + hexV d) = x at *
      generalize hexV c = x1 at *
      generalize hexV d = x2 at *
      clear HE rc rd
      go_wp2_with (first
        | (at_builtin; refine wpList_append_own _ rfl _ _ 71 rfl w.heap.size 5 i0 (.int .u8 0) 1 1 Tryz.underlying71 hi hz0 hz1 hz2 rfl (by decide) _ _ _ rfl (hownr.alloc _) ⟨wr.heap.size, 0, none⟩ 1 1 [.int .u8 (x.toNat : Int)] ?d0 rfl ?d1 ?d2 ?d3 ?d4 ?d5 ?_))
      case d0 => rfl
      case d1 => exact cell_new_one wr _
      case d2 => intro u hu; simp at hu; subst hu; rfl
      case d3 => have := HL.out; unfold maxLen; omega
      case d4 => have := HL.out; omega
      case d5 => simp; omega
      intro v' w2 hown' hgrow _
      have HO := hidM (own_push hown')
      have HB := hidM (below_push hownr hbr hB hgrow)
      clear hown' hgrow hownr hbr hB ho dc dd
      go_wp2
      go_roundw
      case rel => exact ⟨k + 1, P ++ [x], by omega, by go_num, HV.out.symm, HO.out, HB.out⟩
      case measure => simp [intOf]; omega
    · have HF : Hid (unhexL s.data.toList = P) := by
        unfold Hid unhexL; rw [hP, len_size, show s.size / 2 = k by omega]
      have hge : ¬ 2 * (k : Int) < (s.size : Int) := by omega
      have hconv := conv_own hownr
      have HB := hidM hbr
      clear hownr hbr hB hP
      go_wp2
      go_ret2
      exact ⟨by rw [HF.out]; rfl, HB.out⟩

set_option maxHeartbeats 1600000 in
set_option maxRecDepth 100000 in
theorem unhex_no (s : ByteArray) (w : World) (hs : s.size ≤ 1048576) (hh : hexed s.data.toList = false) :
    Calls Tryz.prog 59 #[.string s] w fun e w' => e = .returned (.tuple #[.string ⟨#[]⟩, .bool false]) ∧ Below w.heap.size w w' := by
  obtain ⟨i0, hi, hz0, hz1, hz2⟩ := info_parts Tryz.info5
  by_cases hev : s.size % 2 = 0
  · have HN : Hid (DigTo s.data.toList s.size → False) := by
      intro h
      have h2 := hexed_yes s.data.toList (by rw [len_size]; exact h)
      rw [hh, len_size] at h2
      simp [hev] at h2
    clear hh
    obtain ⟨m, hm⟩ : ∃ m, s.size = 2 * m := ⟨s.size / 2, by omega⟩
    have HM := hidM hm
    have hm1 : s.size ≤ 2 * m := by omega
    have hm2 : 2 * m ≤ s.size := by omega
    have hz : ((s.size : Int) % 2 != 0) = false := by simp; omega
    clear hm hev
    go_enter Tryz.func59, Tryz.ntmps59
    go_wp2_with (at_make; refine wpList_make_own _ rfl _ _ 71 rfl w.heap.size 5 i0 (.int .u8 0) 1 Tryz.underlying71 hi hz0 hz1 .i64 .i64 _ m rfl rfl ?c0 ?c1 ?c2 ?c3 ?_)
    case c0 => omega
    case c1 => rw [hz2]; omega
    case c2 => unfold maxLen; omega
    case c3 => exact Nat.le_refl _
    intro w1 hown hgrow
    have hbel : Below w.heap.size w w1 := (Below.refl _ _).grown hgrow (Nat.le_refl _) (by intro k hk; cases hk)
    have hown2 : OwnB w1 w.heap.size (.slice (some ⟨w.heap.size, 0, none⟩) 0 m) [] := hown
    clear hown hgrow
    go_wp2
    go_loopw [4, 5, 6, 7, 8, 9] (fun v i _ _ _ _ wr => ∃ (k : Nat) (P : List UInt8), k ≤ m ∧ i = .int .i64 ((2 * k : Nat) : Int) ∧ P.length = k ∧ DigTo s.data.toList (2 * k) ∧ OwnB wr w.heap.size v P ∧ Below w.heap.size w wr) (fun _ i _ _ _ _ _ => s.size - (intOf i).toNat)
    case atStart => exact ⟨0, [], Nat.zero_le _, rfl, rfl, fun i hi => by omega, hown2, hbel⟩
    case round =>
      obtain ⟨k, P, hk, rfl, hl, hdt, hownr, hbr⟩ := hrel
      clear hown2 hbel
      have HL := hidM hl
      have HD := hidM hdt
      have hB := hbr.size
      clear hl hdt
      by_cases hlt : k < m
      · have k1 : 2 * k < s.size := by omega
        have k2 : 2 * k + 1 < s.size := by omega
        obtain ⟨c, hc⟩ : ∃ c, c = s[2 * k] := ⟨_, rfl⟩
        obtain ⟨d, hd⟩ : ∃ d, d = s[2 * k + 1] := ⟨_, rfl⟩
        have gc : s.data.toList.getD (2 * k) 0 = c := by rw [getD_at s _ k1, hc]
        have gd : s.data.toList.getD (2 * k + 1) 0 = d := by rw [getD_at s _ k2, hd]
        have HY : Hid (isHex c = true → isHex d = true → DigTo s.data.toList (2 * (k + 1))) := by
          intro h1 h2 i hi
          by_cases e : i < 2 * k
          · exact HD.out i e
          · rcases (by omega : i = 2 * k ∨ i = 2 * k + 1) with rfl | rfl
            · rw [gc]; exact h1
            · rw [gd]; exact h2
        have rc : (s[2 * k].toNat : Int) = (c.toNat : Int) := by rw [hc]
        have rd : (s[2 * k + 1].toNat : Int) = (d.toNat : Int) := by rw [hd]
        clear hc hd gc gd
        have b1 := hexV_lt c
        have b2 := hexV_lt d
        cases dc : isHex c
        · have HB := hidM hbr
          clear hownr hbr hB
          go_wp2_with fail
          refine (hexValue_any c wr).mono ?_
          rintro e wr' ⟨rfl, rfl⟩
          go_wp2_with fail
          refine (hexValue_any d wr').mono ?_
          rintro e wr ⟨rfl, rfl⟩
          clear rc rd
          go_wp2
          go_ret2
          exact ⟨rfl, HB.out⟩
        · cases dd : isHex d
          · have HB := hidM hbr
            clear hownr hbr hB
            go_wp2_with fail
            refine (hexValue_any c wr).mono ?_
            rintro e wr' ⟨rfl, rfl⟩
            go_wp2_with fail
            refine (hexValue_any d wr').mono ?_
            rintro e wr ⟨rfl, rfl⟩
            clear rc rd
            go_wp2
            go_ret2
            exact ⟨rfl, HB.out⟩
          · have HY2 : Hid (DigTo s.data.toList (2 * (k + 1))) := HY.out dc dd
            go_wp2_with fail
            refine (hexValue_any c wr).mono ?_
            rintro e wr' ⟨rfl, rfl⟩
            go_wp2_with fail
            refine (hexValue_any d wr').mono ?_
            rintro e wr ⟨rfl, rfl⟩
            have HE : Hid (((hexV c * 16 + hexV d : Nat) : Int) = ((UInt8.ofNat (hexV c * 16 + hexV d)).toNat : Int)) := by unfold Hid; simp; omega
            have ho : bits .or .u8 ((hexV c : Int) * 16) (hexV d : Int) = ((hexV c * 16 + hexV d : Nat) : Int) := or4 _ _ b1 b2
            rw [HE.out] at ho
            generalize UInt8.ofNat (hexV c * 16 + hexV d) = x at *
            generalize hexV c = x1 at *
            generalize hexV d = x2 at *
            clear HE rc rd
            go_wp2_with (first
              | (at_builtin; refine wpList_append_own _ rfl _ _ 71 rfl w.heap.size 5 i0 (.int .u8 0) 1 1 Tryz.underlying71 hi hz0 hz1 hz2 rfl (by decide) _ _ _ rfl (hownr.alloc _) ⟨wr.heap.size, 0, none⟩ 1 1 [.int .u8 (x.toNat : Int)] ?d0 rfl ?d1 ?d2 ?d3 ?d4 ?d5 ?_))
            case d0 => rfl
            case d1 => exact cell_new_one wr _
            case d2 => intro u hu; simp at hu; subst hu; rfl
            case d3 => have := HL.out; unfold maxLen; omega
            case d4 => have := HL.out; omega
            case d5 => simp; omega
            intro v' w2 hown' hgrow _
            have HO := hidM (own_push hown')
            have HB := hidM (below_push hownr hbr hB hgrow)
            have HL2 : Hid ((P ++ [x]).length = k + 1) := by unfold Hid; rw [List.length_append, HL.out]; rfl
            clear hown' hgrow hownr hbr hB ho dc dd
            go_wp2
            go_roundw
            case rel => exact ⟨k + 1, P ++ [x], by omega, by go_num, HL2.out, HY2.out, HO.out, HB.out⟩
            case measure => simp [intOf]; omega
      · exact absurd (fun i hi => HD.out i (by omega)) HN.out
  · have hz : ((s.size : Int) % 2 != 0) = true := by simp; omega
    clear hh
    go_enter Tryz.func59, Tryz.ntmps59
    go_wp2
    go_ret2
    exact ⟨rfl, Below.refl _ _⟩


end Go.Proofs.YtmhjdahmmdfbcaaGreatDoor
