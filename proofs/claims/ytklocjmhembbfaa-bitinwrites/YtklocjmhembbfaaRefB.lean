/-
  Walks: the document's Text: bits as bytes, the last one filled with noughts.
-/
import Derived.Test.YtklocjmhembbfaaRefA
namespace Go.Proofs.Ytklocjmhembbfaa
open Go.RowKit

theorem own_empty (w : World) : OwnB (w.alloc (.cells #[] 5)) w.heap.size (.slice (some ⟨w.heap.size, 0, none⟩) 0 0) [] :=
  World.ownsRow_lit w #[] 0 (Nat.le_refl _) (Nat.zero_le _) rfl
theorem own_push {w1 : World} {B : Nat} {v' : Value} {P : List UInt8} {c : UInt8} (h : w1.ownsRow B 5 1 v' (P.length + 1) (bytesV P ++ [.int .u8 (c.toNat : Int)])) : OwnB w1 B v' (P ++ [c]) := by
  unfold OwnB
  rw [bytesV_app]
  simpa [bytesV] using h
theorem below_push {w wr w1 : World} {B : Nat} {v : Value} {P : List UInt8} {o : Obj} (hown : OwnB wr B v P) (hb : Below B w wr) (hB : B ≤ wr.heap.size) (hg : (wr.alloc o).grownBy w1 v.ownBlock) : Below B w w1 :=
  (hb.alloc hB o).grown hg (by simp; omega) (fun k hk => (World.ownsRow.lt hown k hk).1)
theorem cell_new_one (w : World) (v : Value) : ∀ j u, [v][j]? = some u → (w.alloc (.cells #[v] 5)).cell? ((⟨w.heap.size, 0, none⟩ : Addr).add j) = some u := by
  intro j u hj
  match j, hj with
  | 0, hj => simp at hj; subst hj; simp [Addr.add]

theorem le_set : ∀ (P : List UInt8) (j : Nat) (c : UInt8) (h : j < P.length), le (P.set j c) + 256 ^ j * P[j].toNat = le P + 256 ^ j * c.toNat
  | b :: P, 0, c, _ => by simp [le]; omega
  | b :: P, j + 1, c, h => by
    have hj : j < P.length := by simpa using h
    have ih := le_set P j c hj
    simp only [List.set_cons_succ, le, List.getElem_cons_succ, Nat.pow_succ]
    have e1 : 256 ^ j * 256 * P[j].toNat = 256 * (256 ^ j * P[j].toNat) := by rw [Nat.mul_comm (256 ^ j) 256, Nat.mul_assoc]
    have e2 : 256 ^ j * 256 * c.toNat = 256 * (256 ^ j * c.toNat) := by rw [Nat.mul_comm (256 ^ j) 256, Nat.mul_assoc]
    rw [e1, e2]
    omega
theorem le_ge (P : List UInt8) (j : Nat) (h : j < P.length) : 256 ^ j * P[j].toNat ≤ le P := by
  have h1 := le_drop P j
  rw [List.drop_eq_getElem_cons h, le] at h1
  have h2 : P[j].toNat ≤ le P / 256 ^ j := by omega
  exact Nat.le_trans (Nat.mul_le_mul_left _ h2) (Nat.mul_div_le _ _)
/-- The bytes of k bits behind one bit more. -/
structure TxtAt (l : List Bool) (k : Nat) (P : List UInt8) : Prop where
  len : P.length = (k + 7) / 8
  num : le P = nb (l.take k)
theorem TxtAt.grow {l : List Bool} {k : Nat} {P : List UInt8} (h : TxtAt l k P) (hr : k % 8 = 0) : (P ++ [0]).length = k / 8 + 1 ∧ le (P ++ [0]) = nb (l.take k) := by
  refine ⟨?_, ?_⟩
  · rw [List.length_append, h.len]; simp; omega
  · rw [le_app, h.num]; simp [le]
theorem TxtAt.same {l : List Bool} {k : Nat} {P : List UInt8} (h : TxtAt l k P) (hr : k % 8 ≠ 0) : P.length = k / 8 + 1 ∧ le P = nb (l.take k) := ⟨by rw [h.len]; omega, h.num⟩
theorem txt_no {l : List Bool} {k : Nat} {P : List UInt8} (hk : k < l.length) (h : P.length = k / 8 + 1 ∧ le P = nb (l.take k)) (hx : l[k] = false) : TxtAt l (k + 1) P := by
  refine ⟨by rw [h.1]; omega, ?_⟩
  rw [List.take_succ_eq_append_getElem hk, nb_snoc, hx, h.2]; simp
theorem txt_small {l : List Bool} {k : Nat} {P : List UInt8} (hk : k < l.length) (h : P.length = k / 8 + 1 ∧ le P = nb (l.take k)) : P[k / 8]'(by omega) < UInt8.ofNat (2 ^ (k % 8)) ∧ (P[k / 8]'(by omega)).toNat < 2 ^ (k % 8) := by
  have h1 := le_ge P (k / 8) (by omega)
  have h2 := nb_lt (l.take k)
  rw [List.length_take, Nat.min_eq_left (by omega)] at h2
  rw [h.2, pow256] at h1
  have h3 : 2 ^ k = 2 ^ (8 * (k / 8)) * 2 ^ (k % 8) := by rw [← Nat.pow_add]; congr 1; omega
  rw [h3] at h2
  have h4 : (P[k / 8]'(by omega)).toNat < 2 ^ (k % 8) := Nat.lt_of_mul_lt_mul_left (Nat.lt_of_le_of_lt h1 h2)
  refine ⟨?_, h4⟩
  rw [UInt8.lt_iff_toNat_lt]
  have h5 : 2 ^ (k % 8) ≤ 2 ^ 7 := Nat.pow_le_pow_right (by decide) (by omega)
  rw [UInt8.toNat_ofNat']
  rw [Nat.mod_eq_of_lt (Nat.lt_of_le_of_lt h5 (by decide))]
  exact h4
theorem txt_yes {l : List Bool} {k : Nat} {P : List UInt8} (hk : k < l.length) (h : P.length = k / 8 + 1 ∧ le P = nb (l.take k)) (hx : l[k] = true) (c : UInt8) (hc : c.toNat = (P[k / 8]'(by omega)).toNat + 2 ^ (k % 8)) : TxtAt l (k + 1) (P.set (k / 8) c) := by
  refine ⟨by rw [List.length_set, h.1]; omega, ?_⟩
  have h1 := le_set P (k / 8) c (by omega)
  rw [List.take_succ_eq_append_getElem hk, nb_snoc, hx, ← h.2, List.length_take, Nat.min_eq_left (by omega)]
  rw [hc, Nat.mul_add] at h1
  have h3 : 2 ^ k = 256 ^ (k / 8) * 2 ^ (k % 8) := by rw [pow256, ← Nat.pow_add]; congr 1; omega
  rw [← h3] at h1
  simp
  omega

theorem bytesV_set (l : List UInt8) (j : Nat) (c : UInt8) : (bytesV l).set j (.int .u8 (c.toNat : Int)) = bytesV (l.set j c) := by simp [bytesV, List.map_set]
theorem ownB_set {w : World} {B g n cap : Nat} {P : List UInt8} (h : OwnB w B (.slice (some ⟨g, 0, none⟩) n cap) P) (hn : n = P.length) (j : Nat) (c : UInt8) : OwnB (w.setCell ⟨g, j, none⟩ (.int .u8 (c.toNat : Int))) B (.slice (some ⟨g, 0, none⟩) n cap) (P.set j c) := by
  subst hn
  unfold OwnB
  rw [List.length_set, ← bytesV_set]
  exact (World.ownsRow.stored h j (.int .u8 (c.toNat : Int))).1
theorem ownB_cell {w : World} {B g n cap : Nat} {P : List UInt8} (h : OwnB w B (.slice (some ⟨g, 0, none⟩) n cap) P) (hn : n = P.length) (j : Nat) (hj : j < P.length) : w.cell? ⟨g, j, none⟩ = some (.int .u8 (P[j].toNat : Int)) := by
  subst hn
  rw [World.ownsRow.cellAt h j (by omega), bytesV_at P j hj]

theorem txt_facts {l : List Bool} {k d r : Nat} {P : List UInt8} (hk : k < l.length) (h : P.length = k / 8 + 1 ∧ le P = nb (l.take k)) (hx : l[k] = true) (hd : d = k / 8) (hr : r = k % 8) (hP : d < P.length) :
    P[d].toNat < 2 ^ r ∧ ∀ c : UInt8, c.toNat = P[d].toNat + 2 ^ r → TxtAt l (k + 1) (P.set d c) := by
  subst hd hr
  exact ⟨(txt_small hk h).2, fun c hc => txt_yes hk h hx c hc⟩
theorem add_u8 (cc r : Nat) (h : cc < 2 ^ r) (hr : r < 8) : ∃ c : UInt8, c.toNat = cc + 2 ^ r ∧ (cc : Int) + 2 ^ r = (c.toNat : Int) := by
  have h5 : 2 ^ r ≤ 2 ^ 7 := Nat.pow_le_pow_right (by decide) (by omega)
  have h6 : cc + 2 ^ r < 256 := by simp at h5; omega
  have e : (UInt8.ofNat (cc + 2 ^ r)).toNat = cc + 2 ^ r := by rw [UInt8.toNat_ofNat']; exact Nat.mod_eq_of_lt h6
  exact ⟨_, e, by rw [e]; simp⟩

set_option maxHeartbeats 1000000 in
theorem rtext_any (a : Option Addr) (cap : Nat) (l : List Bool) (w : World) (hl : l.length ≤ 1000000000) (h : BAt w a l) :
    Calls Try.prog 19 #[.slice a l.length cap] w fun e w' => (∃ s : ByteArray, e = .returned (.string s) ∧ le s.data.toList = nb l ∧ s.size = (l.length + 7) / 8) ∧ Below w.heap.size w w' := by
  obtain ⟨i0, hi, hz0, hz1, hz2⟩ := info_parts Try.info5
  have H := hidM h
  clear h
  have HST := hidM (own_empty w)
  have HB0 : Hid (Below w.heap.size w (w.alloc (.cells #[] 5))) := (Below.refl _ _).alloc (Nat.le_refl _) _
  obtain ⟨L, hL⟩ : ∃ L, L = l.length := ⟨_, rfl⟩
  have HL := hidM hL
  rw [← hL] at hl
  rw [← hL]
  clear hL
  go_enter Try.func19, Try.ntmps19
  go_wp2
  go_loopw [3, 4, 5, 9] (fun v _ _ i wr => ∃ (k : Nat) (P : List UInt8), k ≤ L ∧ i = .int .i64 k ∧ OwnB wr w.heap.size v P ∧ TxtAt l k P ∧ Below w.heap.size w wr) (fun _ _ _ i _ => L - (intOf i).toNat)
  case atStart => exact ⟨0, [], Nat.zero_le _, rfl, HST.out, ⟨rfl, rfl⟩, HB0.out⟩
  case round =>
    obtain ⟨k, P, hk, rfl, hown, htx, hbr⟩ := hrel
    have HO := hidM hown
    have HB := hidM hbr
    have HT := hidM htx
    clear hown hbr htx HST HB0
    by_cases hlt : k < L
    · have hkl : k < l.length := by rw [← HL.out]; exact hlt
      obtain ⟨b, off, rfl, hc⟩ := (H.out.below HB.out).get k hkl
      obtain ⟨r, hr⟩ : ∃ r, r = k % 8 := ⟨_, rfl⟩
      obtain ⟨d, hd⟩ : ∃ d, d = k / 8 := ⟨_, rfl⟩
      have r8 : r < 8 := by omega
      have d1 : (k : Int) / 8 = (d : Int) := by omega
      have d2 : (k : Int) % 8 = (r : Int) := by omega
      have d3 : (k : Int).tmod 8 = (r : Int) := by rw [Int.tmod_eq_emod_of_nonneg (by omega)]; exact d2
      have d4 : (k : Int).tdiv 8 = (d : Int) := by rw [Int.tdiv_eq_ediv_of_nonneg (by omega)]; exact d1
      have HR := hidM hr
      have HD := hidM hd
      generalize hxx : l[k] = x at *
      have HX := hidM hxx
      have hdL : d ≤ 1000000000 := by omega
      clear hr hd hxx
      by_cases hr0 : r = 0
      · subst hr0
        have HG := hidM (HT.out.grow HR.out.symm)
        have HBS := hidM HB.out.size
        have HPL : Hid (P.length ≤ 1000000000) := by unfold Hid; rw [HT.out.len]; omega
        go_wp2_with (first
            | (at_builtin; refine wpList_append_own _ rfl _ _ 44 rfl w.heap.size 5 i0 (.int .u8 0) 1 1 Try.underlying44 hi hz0 hz1 hz2 rfl (by decide) _ _ _ rfl (World.ownsRow.alloc HO.out _) ⟨wr.heap.size, 0, none⟩ 1 1 [.int .u8 ((0 : UInt8).toNat : Int)] ?c0 rfl ?c1 ?c2 ?c3 ?c4 ?c5 ?_))
        case c0 => rfl
        case c1 => exact cell_new_one wr _
        case c2 => intro u hu; simp at hu; subst hu; rfl
        case c3 => have := HPL.out; unfold maxLen; omega
        case c4 => have := HPL.out; omega
        case c5 => have := HBS.out; simp; omega
        intro v' w1 hown' hgrow _
        have HO1 := hidM (own_push (c := 0) hown')
        have HB1 := hidM (below_push HO.out HB.out HBS.out hgrow)
        clear hown' hgrow HT HO HB
        generalize P ++ [0] = P1 at *
        cases x
        · go_wp2
          go_roundw
          case rel => exact ⟨k + 1, P1, by omega, by go_num, HO1.out, txt_no hkl HG.out HX.out, HB1.out⟩
          case measure => simp [intOf]; omega
        · obtain ⟨g, cp, hv, hg1, hg2⟩ := World.ownsRow.form HO1.out (by rw [HG.out.1]; omega)
          subst hv
          have hPd : d < P1.length := by rw [HG.out.1, ← HD.out]; omega
          have c1 := ownB_cell HO1.out rfl d hPd
          have f1 := World.ownsRow.frozenAt HO1.out d
          obtain ⟨hsm, hyes⟩ := txt_facts hkl HG.out HX.out HD.out HR.out hPd
          have HYES := hidM hyes
          have HSM := hidM hsm
          clear hyes hsm
          generalize P1[d].toNat = cc at *
          obtain ⟨c, hcn, hci⟩ := add_u8 cc 0 HSM.out (by decide)
          have HCN := hidM hcn
          have HCI : Hid (((cc : Int) + 1) % 256 = (c.toNat : Int)) := by have := HSM.out; unfold Hid; simp at this hcn; omega
          clear hcn hci
          go_wp2
          go_region
          rw [HCI.out]
          have HO2 := hidM (ownB_set HO1.out rfl d c)
          go_wp2
          go_roundw
          case rel => exact ⟨k + 1, P1.set d c, by omega, by go_num, HO2.out, HYES.out c HCN.out, below_drewN (below_set HB1.out hg1) 1⟩
          case measure => simp [intOf]; omega
      · have HG := hidM (HT.out.same (by rw [← HR.out]; exact hr0))
        have hrb : ((r : Int) == 0) = false := by simp; omega
        cases x
        · go_wp2
          go_roundw
          case rel => exact ⟨k + 1, P, by omega, by go_num, HO.out, txt_no hkl HG.out HX.out, HB.out⟩
          case measure => simp [intOf]; omega
        · obtain ⟨g, cp, hv, hg1, hg2⟩ := World.ownsRow.form HO.out (by rw [HG.out.1]; omega)
          subst hv
          have hPd : d < P.length := by rw [HG.out.1, ← HD.out]; omega
          have c1 := ownB_cell HO.out rfl d hPd
          have f1 := World.ownsRow.frozenAt HO.out d
          obtain ⟨hsm, hyes⟩ := txt_facts hkl HG.out HX.out HD.out HR.out hPd
          have HYES := hidM hyes
          have HSM := hidM hsm
          clear hyes hsm
          generalize P[d].toNat = cc at *
          obtain ⟨c, hcn, hci⟩ := add_u8 cc r HSM.out r8
          have HCN := hidM hcn
          have HCI : Hid (((cc : Int) + 2 ^ r) % 256 = (c.toNat : Int)) := by unfold Hid; rw [hci]; have := byte_lt c; omega
          clear hcn hci
          go_wp2
          go_region
          rw [HCI.out]
          have HO2 := hidM (ownB_set HO.out rfl d c)
          go_wp2
          go_roundw
          case rel => exact ⟨k + 1, P.set d c, by omega, by go_num, HO2.out, HYES.out c HCN.out, below_drewN (below_set HB.out hg1) 1⟩
          case measure => simp [intOf]; omega
    · have HE : Hid (l.take k = l) := List.take_of_length_le (by rw [← HL.out]; omega)
      have hcv := conv_own HO.out
      have HKL : Hid (k = L) := by unfold Hid; omega
      go_wp2
      go_ret
      refine ⟨⟨_, rfl, ?_, ?_⟩, HB.out⟩
      · show le P = nb l
        rw [HT.out.num, HE.out]
      · show P.toArray.size = _
        rw [List.size_toArray, HT.out.len, HKL.out]
end Go.Proofs.Ytklocjmhembbfaa
