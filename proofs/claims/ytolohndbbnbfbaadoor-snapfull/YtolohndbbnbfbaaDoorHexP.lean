/-
  Hexadecimal in this seat.
-/
import Derived.Test.YtolohndbbnbfbaaDoorShaZ
import Derived.Laws.BitsAllLaws
import Derived.WalkKit
import Derived.WalkSpells
import Derived.WalkLawsBesides
import Derived.Laws.IdiomStrings
import Derived.Deep.QuietTactic
import Derived.BigQuiet
import Derived.Deep.RegionHeld3
import Derived.Deep.MidRow
import Derived.Deep.RegionLaw
import Derived.Laws.MakeOwn
import Derived.Deep.RegionWith
import Derived.OwnWalk
namespace Go.Proofs.YtolohndbbnbfbaaDoor
open Go.RowKit

def h2 : List Nat := [1779033703, 3144134277, 1013904242, 2773480762, 1359893119, 2600822924, 528734635, 1541459225]

theorem take_snoc (s : ByteArray) (k : Nat) (h : k < s.size) : s.data.toList.take (k + 1) = s.data.toList.take k ++ [s[k]] := by
  rw [List.take_succ_eq_append_getElem (by simpa using h)]; rfl

theorem app_two (P : List UInt8) (a b : UInt8) : (⟨P.toArray⟩ : ByteArray) ++ (⟨#[a]⟩ ++ ⟨#[b]⟩) = ⟨(P ++ [a, b]).toArray⟩ := by
  apply ByteArray.ext
  simp [ByteArray.data_append]

def digL : List UInt8 := [48, 49, 50, 51, 52, 53, 54, 55, 56, 57, 97, 98, 99, 100, 101, 102]

def digS : ByteArray := ⟨digL.toArray⟩

def digN (q : Nat) : UInt8 := digL.getD q 0

theorem dig_at (q : Nat) (h : q < 16) : digS[q]'h = digN q := by
  unfold digN
  rw [List.getD_eq_getElem?_getD, List.getElem?_eq_getElem (h := h)]
  rfl

theorem dig_cut (q : Nat) (h : q < 16) : digS.extract q (q + 1) = ⟨#[digN q]⟩ := by
  have : ∀ q, q < 16 → digS.extract q (q + 1) = ⟨#[digN q]⟩ := by decide
  exact this q h

def hex2 (c : UInt8) : List UInt8 := [digN (c.toNat / 16), digN (c.toNat % 16)]

def hexL (l : List UInt8) : List UInt8 := l.flatMap hex2

theorem hexL_snoc (l : List UInt8) (c : UInt8) : hexL (l ++ [c]) = hexL l ++ hex2 c := by simp [hexL]

theorem hexL_len (l : List UInt8) : (hexL l).length = 2 * l.length := by
  induction l with
  | nil => rfl
  | cons c l ih => show (hex2 c ++ hexL l).length = _; rw [List.length_append, ih]; simp [hex2]; omega

theorem hexL_take (s : ByteArray) (k : Nat) (h : k < s.size) : hexL (s.data.toList.take (k + 1)) = hexL (s.data.toList.take k) ++ hex2 s[k] := by rw [take_snoc s k h, hexL_snoc]

set_option maxHeartbeats 1600000 in
set_option maxRecDepth 100000 in
theorem rhex_any (s : ByteArray) (w : World) (hs : s.size ≤ 1048576) :
    Calls Tryd.prog 64 #[.string s] w fun e w' => e = .returned (.string ⟨(hexL s.data.toList).toArray⟩) ∧ Below w.heap.size w w' := by
  go_enter Tryd.func64, Tryd.ntmps64
  go_wp2
  go_loopw [3, 4, 5] (fun v i _ wr => ∃ (k : Nat) (S : ByteArray), k ≤ s.size ∧ i = .int .i64 k ∧ v = .string S ∧ S.size = 2 * k ∧ S = ⟨(hexL (s.data.toList.take k)).toArray⟩ ∧ Below w.heap.size w wr) (fun _ i _ _ => s.size - (intOf i).toNat)
  case atStart => exact ⟨0, ⟨#[]⟩, Nat.zero_le _, rfl, rfl, rfl, rfl, Below.refl _ _⟩
  case round =>
    obtain ⟨k, S, hk, rfl, rfl, hS, hP, hbr⟩ := hrel
    have HP := hidM hP
    have HB := hidM hbr
    have HS := hidM hS
    have hS2 : S.size ≤ 2 * k := by omega
    clear hP hbr hS
    by_cases hlt : k < s.size
    · have hc := byte_lt s[k]
      obtain ⟨c, hcc⟩ : ∃ c, c = s[k].toNat := ⟨_, rfl⟩
      obtain ⟨q1, hq1⟩ : ∃ q, q = c / 16 := ⟨_, rfl⟩
      obtain ⟨q2, hq2⟩ : ∃ q, q = c % 16 := ⟨_, rfl⟩
      have kk : (k : Int) < (s.size : Int) := by omega
      have r0 : (s[k].toNat : Int) = (c : Int) := by omega
      have r1 : (c : Int) / 16 = (q1 : Int) := by omega
      have r2 : (c : Int) % 16 = (q2 : Int) := by omega
      have l1 : q1 < 16 := by omega
      have l2 : q2 < 16 := by omega
      have hcut1 := dig_cut q1 l1
      have hcut2 := dig_cut q2 l2
      unfold digS digL at hcut1 hcut2
      have HX : Hid (hexL (s.data.toList.take (k + 1)) = hexL (s.data.toList.take k) ++ [digN q1, digN q2]) := by unfold Hid; rw [hexL_take s k hlt, hq1, hq2, hcc]; rfl
      clear hq1 hq2
      have HCC := hidM hcc
      clear hcc
      go_wp2
      go_quiet (fail)
      go_wp2
      go_roundw
      case rel =>
        refine ⟨k + 1, _, by omega, by go_num, rfl, ?_, ?_, below_drewN HB.out _⟩
        · have h1 := HS.out
          rw [ByteArray.size_append, ByteArray.size_append, h1]
          show 2 * k + (1 + 1) = _
          omega
        · rw [HX.out, HP.out]; exact app_two _ _ _
      case measure => simp [intOf]; omega
    · have HF : Hid (S = ⟨(hexL s.data.toList).toArray⟩) := by unfold Hid; rw [HP.out, List.take_of_length_le (by simp; omega)]
      go_wp2
      go_ret
      exact ⟨by rw [← HF.out]; rfl, HB.out⟩

theorem Tryd.info5 : (Tryd.prog.info? 5).map (fun i => (i.zero, i.size, i.bytes)) = some (some (.int .u8 0), 1, 1) := by kernel_rfl

theorem bytesV_app (l m : List UInt8) : bytesV (l ++ m) = bytesV l ++ bytesV m := by simp [bytesV]

/-- The value v owns just the bytes l, in memory from 'base' on. -/
def OwnB (w : World) (base : Nat) (v : Value) (l : List UInt8) : Prop := w.ownsRow base 5 1 v l.length (bytesV l)

theorem conv_own {w : World} {base : Nat} {v : Value} {l : List UInt8} (h : OwnB w base v l) :
    (convert 47 9 v).run Tryd.prog w = .ok (.string ⟨l.toArray⟩) w := by
  rcases h.2 with ⟨rfl, hn⟩ | ⟨g, cap, cur, rfl, hb, hg, hnc, hcm, hcs, htake⟩
  · have : l = [] := List.eq_nil_of_length_eq_zero hn
    subst this
    rw [run_convert_bytes_string w 47 9 5 none 0 0 Tryd.underlying47 Tryd.underlying5 Tryd.underlying9]
    rfl
  · refine run_convert_bytes_back w 47 9 5 _ cap l Tryd.underlying47 Tryd.underlying5 Tryd.underlying9 ?_
    intro j hj
    have := World.ownsRow.cells (g := g) h rfl j _ (bytesV_at l j hj)
    exact this

/-- append onto a slice of the call's own, as one step of a region that draws. -/
theorem step_append_own {P : Program} {ops : Array Oper} {o : Oper} {a : Act} {w : World} {K : Act → World → Prop} {Q : Exit → Act → World → Prop} {E : Prop}
    (hg : o.guard = none) (s x : Operand) (t : TypeId) (hop : o.op = Op.call { callee := Callee.builtin Builtin.append, args := #[s, x], argTypes := #[t, t] })
    (base : Nat) (e : TypeId) (i : TypeInfo) (z : Value) (size bytes : Nat) (h1 : P.underlying t = some (.slice e)) (h2 : P.info? e = some i) (h3 : i.zero = some z) (h4 : i.size = size) (h5 : i.bytes = bytes) (h6 : z.cells.size = size) (h7 : 0 < size)
    (v : Value) (n : Nat) (xs : List Value) (hs : a.eval s = v) (hown : w.ownsRow base e size v n xs)
    (ad : Addr) (m c : Nat) (news : List Value) (hx : a.eval x = .slice (some ad) m c) (hn : news.length = m * size) (hc : ∀ j u, news[j]? = some u → w.cell? (ad.add j) = some u) (h1c : ∀ u ∈ news, u.oneCell' = true)
    (b1 : n + m ≤ maxLen) (b2 : (n + m) * bytes ≤ 140737488355328) (b3 : base ≤ w.heap.size)
    (hK : ∀ v' w', w'.ownsRow base e size v' (n + m) (xs ++ news) → w.grownBy w' v.ownBlock → K (a.put o.dst v') w') :
    if Region.wanted o (yielded ops a.tmps) = true then Oper.wp P o a w K Q else E := by
  have hw : Region.wanted o (yielded ops a.tmps) = true := by simp [Region.wanted, hg]
  rw [if_pos hw]
  obtain ⟨v', w', hrun, r1, r2, _⟩ := run_append_own (P := P) w base t o.type e i z size bytes h1 h2 h3 h4 h5 h6 h7 v n xs hown ad m c news hn hc h1c b1 b2 b3
  unfold Oper.wp
  simp [execOp, hop, resolve, invoke, builtin, hs, hx, hrun, Result.andThen]
  exact hK v' w' r1 r2

theorem and15u8 (a : Nat) (ha : a < 256) : bits .and .u8 (a : Int) 15 = ((a % 16 : Nat) : Int) := by
  have := u8_and_nat a 15 ha (by omega)
  rw [nat_mask4] at this
  exact this

theorem cell_new_two (w : World) (u v u' v' : Value) (hu : u = u') (hv : v = v') : ∀ j x, [u', v'][j]? = some x → (w.alloc (.cells #[u, v] 5)).drew.cell? ((⟨w.heap.size, 0, none⟩ : Addr).add j) = some x := by
  subst hu; subst hv
  intro j x hj
  match j, hj with
  | 0, hj => simp at hj; subst hj; simp [Addr.add]
  | 1, hj => simp at hj; subst hj; simp [Addr.add]

theorem own_push2 {w1 : World} {B : Nat} {v' : Value} {P : List UInt8} {c d : UInt8} (h : w1.ownsRow B 5 1 v' (P.length + 2) (bytesV P ++ [.int .u8 (c.toNat : Int), .int .u8 (d.toNat : Int)])) : OwnB w1 B v' (P ++ [c, d]) := by
  unfold OwnB
  rw [bytesV_app]
  simpa [bytesV] using h

theorem below_push_drew {w wr w1 : World} {B : Nat} {v : Value} {P : List UInt8} {o : Obj} (hown : OwnB wr B v P) (hb : Below B w wr) (hB : B ≤ wr.heap.size) (hg : (wr.alloc o).drew.grownBy w1 v.ownBlock) : Below B w w1 :=
  (hb.alloc hB o).drew.grown hg (by simp; omega) (fun k hk => (World.ownsRow.lt hown k hk).1)

set_option maxHeartbeats 1600000 in
set_option maxRecDepth 100000 in
theorem hex_any (s : ByteArray) (w : World) (hs : s.size ≤ 1048576) :
    Calls Tryd.prog 61 #[.string s] w fun e w' => e = .returned (.string ⟨(hexL s.data.toList).toArray⟩) ∧ Below w.heap.size w w' := by
  obtain ⟨i0, hi, hz0, hz1, hz2⟩ := info_parts Tryd.info5
  go_enter Tryd.func61, Tryd.ntmps61
  go_wp2_with (at_make; refine wpList_make_own _ rfl _ _ 47 rfl w.heap.size 5 i0 (.int .u8 0) 1 Tryd.underlying47 hi hz0 hz1 .i64 .i64 _ (2 * s.size) rfl rfl ?c0 ?c1 ?c2 ?c3 ?_)
  case c0 => omega
  case c1 => rw [hz2]; omega
  case c2 => unfold maxLen; omega
  case c3 => exact Nat.le_refl _
  intro w1 hown hgrow
  have hbel : Below w.heap.size w w1 := (Below.refl _ _).grown hgrow (Nat.le_refl _) (by intro k hk; cases hk)
  have hown2 : OwnB w1 w.heap.size (.slice (some ⟨w.heap.size, 0, none⟩) 0 (2 * s.size)) [] := hown
  clear hown hgrow
  go_wp2
  go_loopw [3, 4] (fun v i wr => ∃ (k : Nat) (P : List UInt8), k ≤ s.size ∧ i = .int .i64 k ∧ P = hexL (s.data.toList.take k) ∧ OwnB wr w.heap.size v P ∧ Below w.heap.size w wr) (fun _ i _ => s.size - (intOf i).toNat)
  case atStart => exact ⟨0, [], Nat.zero_le _, rfl, rfl, hown2, hbel⟩
  case round =>
    obtain ⟨k, P, hk, rfl, hP, hownr, hbr⟩ := hrel
    clear hown2 hbel
    have HP := hidM hP
    have hB := hbr.size
    by_cases hlt : k < s.size
    · have hl : P.length = 2 * k := by rw [hP, hexL_len]; simp; omega
      have HL := hidM hl
      have hc := byte_lt s[k]
      obtain ⟨q1, hq1⟩ : ∃ q, q = s[k].toNat / 16 := ⟨_, rfl⟩
      obtain ⟨q2, hq2⟩ : ∃ q, q = s[k].toNat % 16 := ⟨_, rfl⟩
      have r1 : (s[k].toNat : Int) / 16 = (q1 : Int) := by omega
      have r2 : bits .and .u8 (s[k].toNat : Int) 15 = (q2 : Int) := by rw [hq2]; exact and15u8 _ hc
      have l1 : q1 < 16 := by omega
      have l2 : q2 < 16 := by omega
      have m1 : (q1 : Int) < 16 := by omega
      have m2 : (q2 : Int) < 16 := by omega
      have kk : (k : Int) < (s.size : Int) := by omega
      have HX : Hid (hexL (s.data.toList.take (k + 1)) = P ++ [digN q1, digN q2]) := by unfold Hid; rw [hexL_take s k hlt, ← hP, hq1, hq2]; rfl
      clear hq1 hq2 hP hl
      go_wp2
      go_region_law (refine step_append_own rfl _ _ 47 rfl w.heap.size 5 i0 (.int .u8 0) 1 1 Tryd.underlying47 hi hz0 hz1 hz2 rfl (by decide) u3 P.length (bytesV P) rfl (by exact (hownr.alloc _).drew) ⟨wr.heap.size, 0, none⟩ 2 2 [.int .u8 ((digN q1).toNat : Int), .int .u8 ((digN q2).toNat : Int)] (by rfl) rfl (by exact cell_new_two wr _ _ _ _ (val_int (congrArg (fun c : UInt8 => (c.toNat : Int)) (dig_at q1 l1))) (val_int (congrArg (fun c : UInt8 => (c.toNat : Int)) (dig_at q2 l2)))) (by intro u hu; simp at hu; rcases hu with rfl | rfl <;> rfl) (by have := HL.out; unfold maxLen; omega) (by have := HL.out; omega) (by simp; omega) ?_; intro v' w2 hown' hgrow; have HO := hidM (own_push2 hown'); have HB := hidM (below_push_drew hownr hbr hB hgrow); clear hown' hgrow hownr hbr hB)
      all_goals
        go_wp2
        go_roundw
        case rel => exact ⟨k + 1, _, by omega, by go_num, HX.out.symm, HO.out, HB.out⟩
        case measure => simp [intOf]; omega
    · have HF : Hid (hexL s.data.toList = P) := by unfold Hid; rw [hP, List.take_of_length_le (by simp; omega)]
      have hconv := conv_own hownr
      have HB := hidM hbr
      clear hownr hbr hB hP
      go_wp2
      go_ret
      exact ⟨by rw [HF.out]; rfl, HB.out⟩

end Go.Proofs.YtolohndbbnbfbaaDoor
