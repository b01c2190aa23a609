/-
  Taken over from another program: TreM.
  Taken over from another program: TreA.
-/
import Derived.Test.YtlmeoahcpmikiaaGreatDoorProg
import Derived.Test.YtlmeoahcpmikiaaGreatDoorChecked
import Derived.Test.YtlmeoahcpmikiaaGreatDoorRows
import Derived.WalkKit
import Derived.WalkSpells
import Derived.WalkLawsBesides
import Derived.Laws.IdiomStrings
import Derived.Laws.BitsAllLaws
import Derived.Deep.QuietTactic
import Derived.BigQuiet
import Derived.Deep.RegionHeld3
import Derived.Deep.MidRow
import Derived.OpenShut
import Derived.OwnWalk
import Derived.BigRegion
import Derived.Deep.DeepCutAuto
namespace Go.Proofs.YtlmeoahcpmikiaaGreatDoor.T
/-- a number to the base 8 -/
def octN (n : Nat) : List UInt8 := if h : n < 8 then [UInt8.ofNat (48 + n)] else octN (n / 8) ++ [UInt8.ofNat (48 + n % 8)]
termination_by n
decreasing_by omega
theorem octN_lt {n : Nat} (h : n < 8) : octN n = [UInt8.ofNat (48 + n)] := by rw [octN, dif_pos h]
theorem octN_ge {n : Nat} (h : ¬ n < 8) : octN n = octN (n / 8) ++ [UInt8.ofNat (48 + n % 8)] := by rw [octN, dif_neg h]
def valO (l : List UInt8) : Nat := l.foldl (fun a c => 8 * a + (c.toNat - 48)) 0
theorem valO_app (l : List UInt8) (c : UInt8) : valO (l ++ [c]) = 8 * valO l + (c.toNat - 48) := by unfold valO; rw [List.foldl_append]; rfl
theorem dig_nat {n : Nat} (h : n < 8) : (UInt8.ofNat (48 + n)).toNat = 48 + n := by rw [UInt8.toNat_ofNat']; omega
theorem valO_oct (n : Nat) : valO (octN n) = n := by
  induction n using Nat.strongRecOn with
  | _ n ih =>
    by_cases h : n < 8
    · rw [octN_lt h]
      show 8 * 0 + ((UInt8.ofNat (48 + n)).toNat - 48) = n
      rw [dig_nat h]; omega
    · rw [octN_ge h, valO_app, ih (n / 8) (by omega), dig_nat (by omega)]; omega
theorem octN_dig (n : Nat) : ∀ c ∈ octN n, 48 ≤ c.toNat ∧ c.toNat ≤ 55 := by
  induction n using Nat.strongRecOn with
  | _ n ih =>
    intro c hc
    by_cases h : n < 8
    · rw [octN_lt h, List.mem_singleton] at hc
      rw [hc, dig_nat h]; omega
    · rw [octN_ge h, List.mem_append, List.mem_singleton] at hc
      rcases hc with hc | hc
      · exact ih (n / 8) (by omega) c hc
      · rw [hc, dig_nat (by omega)]; omega
theorem octN_len (n k : Nat) (hk : 0 < k) (h : n < 8 ^ k) : (octN n).length ≤ k := by
  induction k generalizing n with
  | zero => omega
  | succ k ih =>
    by_cases h8 : n < 8
    · rw [octN_lt h8]; simp
    · rw [octN_ge h8, List.length_append]
      have h1 : n / 8 < 8 ^ k := by rw [Nat.div_lt_iff_lt_mul (by decide)]; rw [Nat.pow_succ] at h; exact h
      have hk0 : 0 < k := by
        rcases Nat.eq_zero_or_pos k with h0 | h0
        · subst h0; simp at h1; omega
        · exact h0
      have := ih (n / 8) hk0 h1
      simp; omega
/-- with its sign -/
def octZ (m : Int) : List UInt8 := if m < 0 then 45 :: octN m.natAbs else octN m.natAbs
theorem octZ_inj {a b : Int} (h : octZ a = octZ b) : a = b := by
  have head : ∀ n m : Nat, octN n ≠ 45 :: octN m := fun n m e => by
    have := octN_dig n 45 (by rw [e]; exact List.mem_cons_self)
    revert this; decide
  unfold octZ at h
  by_cases ha : a < 0 <;> by_cases hb : b < 0
  · rw [if_pos ha, if_pos hb] at h
    have h1 := congrArg valO (List.cons.inj h).2
    rw [valO_oct, valO_oct] at h1; omega
  · rw [if_pos ha, if_neg hb] at h
    exact absurd h.symm (head _ _)
  · rw [if_neg ha, if_pos hb] at h
    exact absurd h (head _ _)
  · rw [if_neg ha, if_neg hb] at h
    have h1 := congrArg valO h
    rw [valO_oct, valO_oct] at h1; omega
theorem octN_step {n : Nat} (h : 8 ≤ n) (t : List UInt8) : octN n ++ t = octN (n / 8) ++ (UInt8.ofNat (48 + n % 8) :: t) := by
  rw [octN_ge (by omega), List.append_assoc]; rfl
/-- the five modes -/
def modesL : List Int := [16384, 33188, 33261, 40960, 57344]
/-- small letters -/
def lowC (c : UInt8) : UInt8 := if 65 ≤ c.toNat ∧ c.toNat ≤ 90 then c + 32 else c
def dotGit : List UInt8 := [46, 103, 105, 116]
/-- may an entry be called so -/
def nameB (l : List UInt8) : Bool := decide (1 ≤ l.length ∧ l.length ≤ 100 ∧ (47 : UInt8) ∉ l ∧ (0 : UInt8) ∉ l ∧ l ≠ [46] ∧ l ≠ [46, 46] ∧ l.map lowC ≠ dotGit)
end Go.Proofs.YtlmeoahcpmikiaaGreatDoor.T
namespace Go.Proofs.YtlmeoahcpmikiaaGreatDoor.T
open Go.RowKit
theorem hidM {p : Prop} (h : p) : Hid p := h
theorem below_set {B b o : Nat} {a w : World} {v : Value} (h : Below B a w) (hb : B ≤ b) : Below B a (w.setCell ⟨b, o, none⟩ v) :=
  h.trans ⟨rfl, rfl, rfl, by simp, fun k hk => Below.heap_setCell w ⟨b, o, none⟩ v k (by simp; omega)⟩
/-- what the laid tables hold, as far as a road reads them -/
def modeI (i : Nat) : Int := modesL.getD i 0
def foldC (c : Nat) : Nat := if 65 ≤ c ∧ c ≤ 90 then c + 32 else if 97 ≤ c ∧ c ≤ 122 then c - 32 else c
structure GT (w : World) : Prop where
  db : w.cell? ⟨10, 7, none⟩ = some (.int .u8 3)
  md : ∀ i, i < 5 → w.cell? ⟨2, i, none⟩ = some (.int .i64 (modeI i))
  fd : ∀ c, c ∈ [46, 103, 71, 105, 73, 116, 84] → w.cell? ⟨4, c, none⟩ = some (.int .u16 (foldC c : Int))
theorem GT.below {w w' : World} (h : GT w) (hb : Below w.heap.size w w') : GT w' :=
  have k : ∀ {p : Addr} {v : Value}, w.cell? p = some v → w'.cell? p = some v := fun {p} {_} hp => (hb.cell (p := p) (World.block_lt_of_cell? w _ hp)).trans hp
  ⟨k h.db, fun i hi => k (h.md i hi), fun c hc => k (h.fd c hc)⟩
theorem GT.drewN {w : World} (h : GT w) (n : Nat) : GT (w.drewN n) := ⟨h.db, h.md, h.fd⟩
set_option maxRecDepth 100000 in
theorem tz64_any (w : World) (hG : GT w) : Calls Tryz.prog 256 #[.int .u64 8] w fun e w' => e = .returned (.int .i64 3) ∧ w' = w := by
  have c := hG.db
  have e1 : IntKind.u64.wrap (-8) = 18446744073709551608 := by decide +kernel
  have e2 : bits .and .u64 8 18446744073709551608 = 8 := by decide +kernel
  clear hG
  go_enter Tryz.func256, Tryz.ntmps256
  go_wp2
  go_ret
  exact ⟨rfl, rfl⟩
set_option maxRecDepth 100000 in
theorem tz_any (w : World) (hG : GT w) : Calls Tryz.prog 219 #[.int .u64 8] w fun e w' => e = .returned (.int .i64 3) ∧ w' = w := by
  go_enter Tryz.func219, Tryz.ntmps219
  go_wp2_with fail
  refine (tz64_any w hG).mono ?_
  rintro _ w0 ⟨rfl, h0⟩
  rw [h0]
  clear h0 w0
  go_wp2
  go_ret
  exact ⟨rfl, rfl⟩
set_option maxRecDepth 100000 in
theorem pow2_any (w : World) : Calls Tryz.prog 218 #[.int .i64 8] w fun e w' => e = .returned (.bool true) ∧ w' = w := by
  have e2 : bits .and .i64 8 7 = 0 := by decide +kernel
  go_enter Tryz.func218, Tryz.ntmps218
  go_wp2
  go_ret
  exact ⟨rfl, rfl⟩
/-- bytes in a row -/
def bytesV (l : List UInt8) : List Value := l.map fun (c : UInt8) => .int .u8 (c.toNat : Int)
theorem bytesV_at (l : List UInt8) (j : Nat) (h : j < l.length) : (bytesV l)[j]? = some (.int .u8 (l[j].toNat : Int)) := by unfold bytesV; simp [h]
theorem bytesV_set (l : List UInt8) (j : Nat) (c : UInt8) : bytesV (l.set j c) = (bytesV l).set j (.int .u8 (c.toNat : Int)) := by unfold bytesV; rw [List.map_set]
/-- a block that holds just these bytes -/
def RowB (w : World) (b t : Nat) (l : List UInt8) : Prop := w.heap[b]? = some (.cells (bytesV l).toArray t (0, 0))
theorem RowB.cell {w : World} {b t : Nat} {l : List UInt8} (h : RowB w b t l) (j : Nat) (hj : j < l.length) : w.cell? ⟨b, j, none⟩ = some (.int .u8 (l[j].toNat : Int)) := by
  rw [cell_of_row w b j _ t (0, 0) h, List.getElem?_toArray, bytesV_at l j hj]
theorem RowB.cellq {w : World} {b t : Nat} {l : List UInt8} (h : RowB w b t l) {j : Nat} {c : UInt8} (hc : l[j]? = some c) : w.cell? ⟨b, j, none⟩ = some (.int .u8 (c.toNat : Int)) := by
  rw [cell_of_row w b j _ t (0, 0) h, List.getElem?_toArray]
  unfold bytesV
  rw [List.getElem?_map, hc]
  rfl
theorem RowB.fz {w : World} {b t : Nat} {l : List UInt8} (h : RowB w b t l) (j : Nat) : w.frozen? ⟨b, j, none⟩ = false := frozen_of_row w b j _ t h
theorem RowB.set {w : World} {b t : Nat} {l : List UInt8} (h : RowB w b t l) (j : Nat) (c : UInt8) : RowB (w.setCell ⟨b, j, none⟩ (.int .u8 (c.toNat : Int))) b t (l.set j c) := by
  unfold RowB
  rw [heap_setCell_same w b _ _ t _ h, bytesV_set]
  simp
def Z65 : List UInt8 := List.replicate 65 0
theorem zero113 (w : World) : (zeroValue 288).run Tryz.prog w = .ok (.agg (bytesV Z65).toArray) w := by kernel_rfl
def digS : ByteArray := ⟨#[48, 49, 50, 51, 52, 53, 54, 55, 56, 57, 97, 98, 99, 100, 101, 102, 103, 104, 105, 106, 107, 108, 109, 110, 111, 112, 113, 114, 115, 116, 117, 118, 119, 120, 121, 122]⟩
theorem dig_lt {r : Nat} (h : r < 8) : r < digS.size := by show r < 36; omega
theorem dig_all : ∀ r : Fin 8, digS[r.val]'(dig_lt r.isLt) = UInt8.ofNat (48 + r.val) := by decide +kernel
theorem dig_get {r : Nat} (h : r < 8) : digS[r]'(dig_lt h) = UInt8.ofNat (48 + r) := dig_all ⟨r, h⟩
theorem and7 (a : Nat) (ha : a < 18446744073709551616) : bits .and .u64 (a : Int) 7 = ((a % 8 : Nat) : Int) := by
  have h := u64_and_nat a 7 ha (by decide)
  rw [show (7 : Nat) = 2 ^ 3 - 1 from rfl, Nat.and_two_pow_sub_one_eq_mod] at h
  exact h
/-- the buffer so far -/
def bufL (k : Nat) (t : List UInt8) : List UInt8 := List.replicate k 0 ++ t
theorem bufL_set (k : Nat) (t : List UInt8) (c : UInt8) : (bufL (k + 1) t).set k c = bufL k (c :: t) := by
  unfold bufL
  rw [List.replicate_succ', List.append_assoc, List.set_append_right _ _ (by simp)]
  simp
theorem conv_buf {w : World} {b k n cap : Nat} {t : List UInt8} (h : RowB w b 288 (bufL k t)) (hn : n = t.length) :
    (convert 74 9 (.slice (some ⟨b, k, none⟩) n cap)).run Tryz.prog w = .ok (.string ⟨t.toArray⟩) w := by
  subst hn
  refine run_convert_bytes_back w 74 9 5 ⟨b, k, none⟩ cap t Tryz.underlying74 Tryz.underlying5 Tryz.underlying9 ?_
  intro j hj
  have h2 : (bufL k t)[k + j]? = some t[j] := by unfold bufL; rw [List.getElem?_append_right (by simp)]; simp [hj]
  rw [Addr.add_lit]
  exact h.cellq h2
set_option maxHeartbeats 2000000 in
set_option maxRecDepth 100000 in
theorem fbits_any (u U : Nat) (neg : Bool) (w : World) (hG : GT w) (_hu : u < 18446744073709551616) (hU : U < 18446744073709551616) (hn : neg = true → IntKind.u64.wrap (-(u : Int)) = (U : Int)) (hp : neg = false → u = U) :
    Calls Tryz.prog 169 #[.slice none 0 0, .int .u64 (u : Int), .int .i64 8, .bool neg, .bool false] w fun e w' => e = .returned (.tuple #[.slice none 0 0, .string ⟨(if neg then 45 :: octN U else octN U).toArray⟩]) ∧ Below w.heap.size w w' := by
  have HG := hidM hG
  have HR0 : Hid (RowB (w.alloc (.cells (bytesV Z65).toArray 288)) w.heap.size 288 (bufL 65 [])) := by
    unfold Hid RowB
    rw [heap_alloc_new]
    unfold bufL Z65
    rw [List.append_nil]
  have HB0 : Hid (Below w.heap.size w (w.alloc (.cells (bytesV Z65).toArray 288))) := (Below.refl _ w).alloc (Nat.le_refl _) _
  have HG0 := hidM (hG.below HB0.out)
  obtain ⟨Z, hZ⟩ : ∃ Z, Z = (bytesV Z65).toArray := ⟨_, rfl⟩
  rw [← hZ] at HR0 HB0 HG0
  have hz : ∀ w : World, (zeroValue 288).run Tryz.prog w = .ok (.agg Z) w := fun w => by rw [hZ]; exact zero113 w
  clear hG hZ
  have HUP : Hid (neg = false → u = U) := hp
  have HUN := hidM hn
  clear hp hn
  go_enter Tryz.func169, Tryz.ntmps169
  cases neg with
  | true =>
    as_aux_lemma =>
      have hun := HUN.out rfl
      clear HUP HUN
      go_wp2_with fail
      generalize w.alloc (.cells Z 288) = w1 at *
      obtain ⟨B, hB⟩ : ∃ B, B = w.heap.size := ⟨_, rfl⟩
      rw [← hB] at HR0 HB0 ⊢
      have HBE := hidM hB
      try simp only [← hB]
      clear hB hz
      refine (pow2_any w1).mono ?_
      rintro _ w0 ⟨rfl, h0⟩
      rw [h0]
      clear h0 w0
      go_wp2_with fail
      refine (tz_any w1 HG0.out).mono ?_
      rintro _ w0 ⟨rfl, h0⟩
      rw [h0]
      clear h0 w0
      go_wp2
      go_loopw [1, 13] (fun uv iv wr => ∃ (cur k : Nat) (tl : List UInt8), uv = .int .u64 (cur : Int) ∧ iv = .int .i64 (k : Int) ∧ k + tl.length = 65 ∧ tl.length ≤ 21 ∧ cur < 8 ^ (22 - tl.length) ∧ cur < 18446744073709551616 ∧ octN U = octN cur ++ tl ∧ RowB wr B 288 (bufL k tl) ∧ Below B w wr) (fun uv _ _ => (intOf uv).toNat)
      case atStart => exact ⟨U, 65, [], rfl, rfl, rfl, by decide, Nat.lt_of_lt_of_le hU (by decide), hU, by rw [List.append_nil], HR0.out, HB0.out⟩
      case round =>
        obtain ⟨cur, k, tl, rfl, rfl, hk, hl21, hcur, hc64, hoct, hrow, hbel⟩ := hrel
        clear HR0 HB0 HG0
        have HRW := hidM hrow
        have HBL := hidM hbel
        have HOC := hidM hoct
        have HKL := hidM hk
        have HC8 := hidM hcur
        clear hrow hbel hoct hcur
        obtain ⟨k1, hk1⟩ : ∃ k1, k = k1 + 1 := ⟨k - 1, by omega⟩
        have ek : (k : Int) - 1 = (k1 : Int) := by omega
        have k65 : (k1 : Int) < 65 := by omega
        have k65n : k1 < 65 := by omega
        have kb : k ≤ 65 := by omega
        have k43 : 43 ≤ k1 := by omega
        have HK1 := hidM hk1
        have HLB : Hid ((bufL k tl).length = 65) := by unfold Hid bufL; rw [List.length_append, List.length_replicate]; exact hk
        have HFZ := HRW.out.fz k1
        clear hk hk1
        by_cases h8 : 8 ≤ cur
        · have g8 : (8 : Int) ≤ (cur : Int) := by omega
          obtain ⟨r, hr⟩ : ∃ r, r = cur % 8 := ⟨_, rfl⟩
          obtain ⟨q, hq⟩ : ∃ q, q = cur / 8 := ⟨_, rfl⟩
          have er : bits .and .u64 (cur : Int) 7 = (r : Int) := by rw [hr]; exact and7 cur hc64
          have eq8 : (cur : Int) / 8 = (q : Int) := by omega
          have r8 : r < 8 := by omega
          have r36 : (r : Int) < 36 := by omega
          have q64 : q < 18446744073709551616 := by omega
          have hlt : q < cur := by omega
          have HNX : Hid (octN U = octN q ++ (UInt8.ofNat (48 + r) :: tl) ∧ tl.length ≤ 20 ∧ q < 8 ^ (22 - (UInt8.ofNat (48 + r) :: tl).length)) := by
            have h20 : tl.length ≤ 20 := by
              rcases Nat.lt_or_ge tl.length 21 with h | h
              · omega
              · have := HC8.out
                rw [show 22 - tl.length = 1 by omega] at this
                omega
            refine ⟨by rw [HOC.out, octN_step h8, ← hq, ← hr], h20, ?_⟩
            have := HC8.out
            rw [show 22 - tl.length = (22 - (tl.length + 1)) + 1 by omega, Nat.pow_succ] at this
            rw [hq, List.length_cons, Nat.div_lt_iff_lt_mul (by decide)]
            exact this
          have hcl : ∃ c0, wr.cell? ⟨B, k1, none⟩ = some (.int .u8 c0) := ⟨_, HRW.out.cell k1 (by rw [HLB.out]; exact k65n)⟩
          obtain ⟨c0, hcl⟩ := hcl
          have HND : Hid (∀ w2 : World, w2 = wr.setCell ⟨B, k1, none⟩ (.int .u8 ((digS[r]'(dig_lt r8)).toNat : Int)) → RowB w2 B 288 (bufL k1 (UInt8.ofNat (48 + r) :: tl)) ∧ Below B w w2) := fun w2 h2 => by
            rw [h2, dig_get r8]
            refine ⟨?_, below_set HBL.out (Nat.le_refl _)⟩
            have h3 := HRW.out.set k1 (UInt8.ofNat (48 + r))
            rw [HK1.out, bufL_set] at h3
            exact h3
          clear hr hq
          go_wp2
          generalize hw2 : World.setCell _ _ _ = w2
          have HX2 := hidM (HND.out w2 hw2.symm)
          clear hw2
          refine ⟨⟨q, k1, UInt8.ofNat (48 + r) :: tl, rfl, rfl, ?_, ?_, HNX.out.2.2, q64, HNX.out.1, HX2.out.1, HX2.out.2⟩, ?_⟩
          · have h1 := HKL.out; have h2 := HK1.out; rw [List.length_cons]; omega
          · have h1 := HNX.out.2.1; rw [List.length_cons]; omega
          · simp [intOf]; omega
        · have g8 : ¬ (8 : Int) ≤ (cur : Int) := by omega
          have c36 : (cur : Int) < 36 := by omega
          have r8 : cur < 8 := by omega
          have HOU : Hid (octN U = UInt8.ofNat (48 + cur) :: tl) := by unfold Hid; rw [HOC.out, octN_lt r8]; rfl
          have HND : Hid (∀ w2 : World, w2 = wr.setCell ⟨B, k1, none⟩ (.int .u8 ((digS[cur]'(dig_lt r8)).toNat : Int)) → RowB w2 B 288 (bufL k1 (UInt8.ofNat (48 + cur) :: tl)) ∧ Below B w w2) := fun w2 h2 => by
            rw [h2, dig_get r8]
            refine ⟨?_, below_set HBL.out (Nat.le_refl _)⟩
            have h3 := HRW.out.set k1 (UInt8.ofNat (48 + cur))
            rw [HK1.out, bufL_set] at h3
            exact h3
          obtain ⟨c0, hcl⟩ : ∃ c0, wr.cell? ⟨B, k1, none⟩ = some (.int .u8 c0) := ⟨_, HRW.out.cell k1 (by rw [HLB.out]; exact k65n)⟩
          have HLO : Hid ((octN U).length + k1 = 65) := by unfold Hid; rw [HOU.out, List.length_cons]; have h1 := HKL.out; have h2 := HK1.out; omega
          obtain ⟨k2, hk2⟩ : ∃ k2, k1 = k2 + 1 := ⟨k1 - 1, by omega⟩
          obtain ⟨n, hn⟩ : ∃ n, n = (45 :: octN U).length := ⟨_, rfl⟩
          have hn2 : n = (octN U).length + 1 := by rw [hn, List.length_cons]
          have e2 : (k1 : Int) - 1 = (k2 : Int) := by omega
          have hkn : k2 + n = 65 := by have := HLO.out; omega
          have j1 : (65 : Int) - (k2 : Int) = (n : Int) := by omega
          have j2 : 65 - k2 = n := by omega
          have j3 : (k2 : Int) ≤ 65 := by omega
          have j4 : ¬ k2 = 65 := by omega
          have j5 : (k2 : Int) < 65 := by omega
          have j6 : k2 < 65 := by omega
          have j7 : ¬ k1 = k2 := by omega
          have j8 : ¬ k2 = k1 := by omega
          obtain ⟨c1, hcl1⟩ : ∃ c1, wr.cell? ⟨B, k2, none⟩ = some (.int .u8 c1) := ⟨_, HRW.out.cell k2 (by rw [HLB.out]; exact j6)⟩
          have HFZ2 := HRW.out.fz k2
          have HK2 := hidM hk2
          have HNN := hidM hn
          clear hkn hn hn2 hk2
          go_wp2
          generalize hw2 : World.setCell (World.setCell _ _ _) _ _ = w2
          have HX2 : Hid (RowB w2 B 288 (bufL k2 (45 :: octN U)) ∧ Below B w w2) := by
            obtain ⟨h1, h2⟩ := HND.out _ rfl
            rw [← HOU.out] at h1
            have hb : bufL k1 (octN U) = bufL (k2 + 1) (octN U) := by rw [HK2.out]
            rw [hb] at h1
            have h3 := h1.set k2 45
            rw [bufL_set] at h3
            have h4 := below_set (o := k2) (v := .int .u8 ((45 : UInt8).toNat : Int)) h2 (Nat.le_refl _)
            rw [← hw2]
            exact ⟨h3, h4⟩
          have hconv : (convert 74 9 (.slice (some ⟨B, k2, none⟩) n n)).run Tryz.prog w2 = .ok (.string ⟨(45 :: octN U).toArray⟩) w2 := conv_buf HX2.out.1 HNN.out
          clear hw2
          rw [hconv]
          go_wp2
          go_ret2
          exact ⟨rfl, by rw [← HBE.out]; exact HX2.out.2⟩
  | false =>
    as_aux_lemma =>
      have huU := HUP.out rfl
      subst huU
      clear HUP HUN
      go_wp2_with fail
      generalize w.alloc (.cells Z 288) = w1 at *
      obtain ⟨B, hB⟩ : ∃ B, B = w.heap.size := ⟨_, rfl⟩
      rw [← hB] at HR0 HB0 ⊢
      have HBE := hidM hB
      try simp only [← hB]
      clear hB hz
      refine (pow2_any w1).mono ?_
      rintro _ w0 ⟨rfl, h0⟩
      rw [h0]
      clear h0 w0
      go_wp2_with fail
      refine (tz_any w1 HG0.out).mono ?_
      rintro _ w0 ⟨rfl, h0⟩
      rw [h0]
      clear h0 w0
      go_wp2
      go_loopw [1, 13] (fun uv iv wr => ∃ (cur k : Nat) (tl : List UInt8), uv = .int .u64 (cur : Int) ∧ iv = .int .i64 (k : Int) ∧ k + tl.length = 65 ∧ tl.length ≤ 21 ∧ cur < 8 ^ (22 - tl.length) ∧ cur < 18446744073709551616 ∧ octN u = octN cur ++ tl ∧ RowB wr B 288 (bufL k tl) ∧ Below B w wr) (fun uv _ _ => (intOf uv).toNat)
      case atStart => exact ⟨u, 65, [], rfl, rfl, rfl, by decide, Nat.lt_of_lt_of_le hU (by decide), hU, by rw [List.append_nil], HR0.out, HB0.out⟩
      case round =>
        obtain ⟨cur, k, tl, rfl, rfl, hk, hl21, hcur, hc64, hoct, hrow, hbel⟩ := hrel
        clear HR0 HB0 HG0
        have HRW := hidM hrow
        have HBL := hidM hbel
        have HOC := hidM hoct
        have HKL := hidM hk
        have HC8 := hidM hcur
        clear hrow hbel hoct hcur
        obtain ⟨k1, hk1⟩ : ∃ k1, k = k1 + 1 := ⟨k - 1, by omega⟩
        have ek : (k : Int) - 1 = (k1 : Int) := by omega
        have k65 : (k1 : Int) < 65 := by omega
        have k65n : k1 < 65 := by omega
        have kb : k ≤ 65 := by omega
        have k43 : 43 ≤ k1 := by omega
        have HK1 := hidM hk1
        have HLB : Hid ((bufL k tl).length = 65) := by unfold Hid bufL; rw [List.length_append, List.length_replicate]; exact hk
        have HFZ := HRW.out.fz k1
        clear hk hk1
        by_cases h8 : 8 ≤ cur
        · have g8 : (8 : Int) ≤ (cur : Int) := by omega
          obtain ⟨r, hr⟩ : ∃ r, r = cur % 8 := ⟨_, rfl⟩
          obtain ⟨q, hq⟩ : ∃ q, q = cur / 8 := ⟨_, rfl⟩
          have er : bits .and .u64 (cur : Int) 7 = (r : Int) := by rw [hr]; exact and7 cur hc64
          have eq8 : (cur : Int) / 8 = (q : Int) := by omega
          have r8 : r < 8 := by omega
          have r36 : (r : Int) < 36 := by omega
          have q64 : q < 18446744073709551616 := by omega
          have hlt : q < cur := by omega
          have HNX : Hid (octN u = octN q ++ (UInt8.ofNat (48 + r) :: tl) ∧ tl.length ≤ 20 ∧ q < 8 ^ (22 - (UInt8.ofNat (48 + r) :: tl).length)) := by
            have h20 : tl.length ≤ 20 := by
              rcases Nat.lt_or_ge tl.length 21 with h | h
              · omega
              · have := HC8.out
                rw [show 22 - tl.length = 1 by omega] at this
                omega
            refine ⟨by rw [HOC.out, octN_step h8, ← hq, ← hr], h20, ?_⟩
            have := HC8.out
            rw [show 22 - tl.length = (22 - (tl.length + 1)) + 1 by omega, Nat.pow_succ] at this
            rw [hq, List.length_cons, Nat.div_lt_iff_lt_mul (by decide)]
            exact this
          have hcl : ∃ c0, wr.cell? ⟨B, k1, none⟩ = some (.int .u8 c0) := ⟨_, HRW.out.cell k1 (by rw [HLB.out]; exact k65n)⟩
          obtain ⟨c0, hcl⟩ := hcl
          have HND : Hid (∀ w2 : World, w2 = wr.setCell ⟨B, k1, none⟩ (.int .u8 ((digS[r]'(dig_lt r8)).toNat : Int)) → RowB w2 B 288 (bufL k1 (UInt8.ofNat (48 + r) :: tl)) ∧ Below B w w2) := fun w2 h2 => by
            rw [h2, dig_get r8]
            refine ⟨?_, below_set HBL.out (Nat.le_refl _)⟩
            have h3 := HRW.out.set k1 (UInt8.ofNat (48 + r))
            rw [HK1.out, bufL_set] at h3
            exact h3
          clear hr hq
          go_wp2
          generalize hw2 : World.setCell _ _ _ = w2
          have HX2 := hidM (HND.out w2 hw2.symm)
          clear hw2
          refine ⟨⟨q, k1, UInt8.ofNat (48 + r) :: tl, rfl, rfl, ?_, ?_, HNX.out.2.2, q64, HNX.out.1, HX2.out.1, HX2.out.2⟩, ?_⟩
          · have h1 := HKL.out; have h2 := HK1.out; rw [List.length_cons]; omega
          · have h1 := HNX.out.2.1; rw [List.length_cons]; omega
          · simp [intOf]; omega
        · have g8 : ¬ (8 : Int) ≤ (cur : Int) := by omega
          have c36 : (cur : Int) < 36 := by omega
          have r8 : cur < 8 := by omega
          have HOU : Hid (octN u = UInt8.ofNat (48 + cur) :: tl) := by unfold Hid; rw [HOC.out, octN_lt r8]; rfl
          have HND : Hid (∀ w2 : World, w2 = wr.setCell ⟨B, k1, none⟩ (.int .u8 ((digS[cur]'(dig_lt r8)).toNat : Int)) → RowB w2 B 288 (bufL k1 (UInt8.ofNat (48 + cur) :: tl)) ∧ Below B w w2) := fun w2 h2 => by
            rw [h2, dig_get r8]
            refine ⟨?_, below_set HBL.out (Nat.le_refl _)⟩
            have h3 := HRW.out.set k1 (UInt8.ofNat (48 + cur))
            rw [HK1.out, bufL_set] at h3
            exact h3
          obtain ⟨c0, hcl⟩ : ∃ c0, wr.cell? ⟨B, k1, none⟩ = some (.int .u8 c0) := ⟨_, HRW.out.cell k1 (by rw [HLB.out]; exact k65n)⟩
          have HLO : Hid ((octN u).length + k1 = 65) := by unfold Hid; rw [HOU.out, List.length_cons]; have h1 := HKL.out; have h2 := HK1.out; omega
          obtain ⟨n, hn⟩ : ∃ n, n = (octN u).length := ⟨_, rfl⟩
          have hkn : k1 + n = 65 := by have := HLO.out; omega
          have j1 : (65 : Int) - (k1 : Int) = (n : Int) := by omega
          have j2 : 65 - k1 = n := by omega
          have j3 : (k1 : Int) ≤ 65 := by omega
          have j4 : ¬ k1 = 65 := by omega
          clear hkn
          have HNN := hidM hn
          clear hn
          go_wp2
          generalize hw2 : World.setCell _ _ _ = w2
          have HX2 := hidM (HND.out w2 hw2.symm)
          rw [← HOU.out] at HX2
          have hconv : (convert 74 9 (.slice (some ⟨B, k1, none⟩) n n)).run Tryz.prog w2 = .ok (.string ⟨(octN u).toArray⟩) w2 := conv_buf HX2.out.1 HNN.out
          clear hw2
          rw [hconv]
          go_wp2
          go_ret2
          exact ⟨rfl, by rw [← HBE.out]; exact HX2.out.2⟩
set_option maxRecDepth 100000 in
theorem finner_any (m : Int) (w : World) (hG : GT w) (h0 : -9223372036854775808 ≤ m) (h1 : m ≤ 9223372036854775807) :
    Calls Tryz.prog 120 #[.int .i64 m, .int .i64 8] w fun e w' => e = .returned (.string ⟨(octZ m).toArray⟩) ∧ Below w.heap.size w w' := by
  have HG := hidM hG
  clear hG
  by_cases hm : m < 0
  · obtain ⟨u, hu⟩ : ∃ u : Nat, (u : Int) = m + 18446744073709551616 := ⟨(m + 18446744073709551616).toNat, by omega⟩
    have ew : IntKind.u64.wrap m = (u : Int) := by rw [IntKind.wrap_u64]; omega
    have HF := hidM (fbits_any u m.natAbs true w HG.out (by omega) (by omega) (fun _ => by rw [IntKind.wrap_u64]; omega) (fun h => by cases h))
    have HO : Hid (octZ m = if true then 45 :: octN m.natAbs else octN m.natAbs) := by unfold Hid octZ; rw [if_pos hm]; rfl
    rw [← HO.out] at HF
    clear hu HO
    go_enter Tryz.func120, Tryz.ntmps120
    go_wp2_with fail
    refine HF.out.mono ?_
    rintro _ w1 ⟨rfl, hb⟩
    have HB := hidM hb
    clear hb HF
    go_wp2
    go_ret
    exact ⟨rfl, HB.out⟩
  · obtain ⟨u, hu⟩ : ∃ u : Nat, m = (u : Int) := ⟨m.toNat, by omega⟩
    subst hu
    have ew : IntKind.u64.wrap (u : Int) = (u : Int) := by rw [IntKind.wrap_u64]; omega
    have HF := hidM (fbits_any u u false w HG.out (by omega) (by omega) (fun h => by cases h) (fun _ => rfl))
    have HO : Hid (octZ (u : Int) = if false then 45 :: octN u else octN u) := by unfold Hid octZ; rw [if_neg hm]; rfl
    rw [← HO.out] at HF
    clear HO
    go_enter Tryz.func120, Tryz.ntmps120
    go_wp2_with fail
    refine HF.out.mono ?_
    rintro _ w1 ⟨rfl, hb⟩
    have HB := hidM hb
    clear hb HF
    go_wp2
    go_ret
    exact ⟨rfl, HB.out⟩
set_option maxRecDepth 100000 in
theorem format_any (m : Int) (w : World) (hG : GT w) (h0 : -9223372036854775808 ≤ m) (h1 : m ≤ 9223372036854775807) :
    Calls Tryz.prog 75 #[.int .i64 m, .int .i64 8] w fun e w' => e = .returned (.string ⟨(octZ m).toArray⟩) ∧ Below w.heap.size w w' := by
  go_enter Tryz.func75, Tryz.ntmps75
  go_wp2_with fail
  refine (finner_any m w hG h0 h1).mono ?_
  rintro _ w1 ⟨rfl, hb⟩
  have HB := hidM hb
  clear hb
  go_wp2
  go_ret
  exact ⟨rfl, HB.out⟩
set_option maxRecDepth 100000 in
theorem written_any (m : Int) (w : World) (hG : GT w) (h0 : -9223372036854775808 ≤ m) (h1 : m ≤ 9223372036854775807) :
    Calls Tryz.prog 28 #[.int .i64 m] w fun e w' => e = .returned (.string ⟨(octZ m).toArray⟩) ∧ Below w.heap.size w w' := by
  go_enter Tryz.func28, Tryz.ntmps28
  go_wp2_with fail
  refine (format_any m w hG h0 h1).mono ?_
  rintro _ w1 ⟨rfl, hb⟩
  have HB := hidM hb
  clear hb
  go_wp2
  go_ret
  exact ⟨rfl, HB.out⟩
end Go.Proofs.YtlmeoahcpmikiaaGreatDoor.T
