/-
  The lanes of a picture: row and Clone.
-/
import Derived.Lib.SliceRun
import Derived.Test.YthgmabbnmoembaaDoorGraE
namespace Go.Proofs.YthgmabbnmoembaaDoor
open Go.RowKit

theorem LBx.form {w : World} {B : Nat} {v : Value} {l : List Int} (h : LBx w B v l) {q : Nat} (hq : q < l.length) : ∃ g c, v = .slice (some ⟨g, 0, none⟩) l.length c ∧ w.cell? ⟨g, q, none⟩ = some (.int .i64 l[q]) ∧ w.frozen? ⟨g, q, none⟩ = false := by
  obtain ⟨a, c, hv, _, hs⟩ := h.own.shape
  obtain ⟨g, rfl, _, _, _, hat⟩ := hs (by omega)
  have h1 := h.own
  rw [hv] at h1
  exact ⟨g, c, hv, by rw [← hat q hq, Nat.zero_add], h1.frozen q⟩
theorem stepP_own {own n : Nat} {l : List Int} {p : Int} (h : n = 0) (hm : p ∉ l) : stepP own n l p = l.set own p := by unfold stepP; rw [if_pos ⟨h, hm⟩]
theorem stepP_put {own n : Nat} {l : List Int} {p : Int} (h : ¬ (n = 0 ∧ p ∉ l)) : stepP own n l p = putL l p := by unfold stepP; rw [if_neg h]
theorem parK_next {own : Nat} {l ps : List Int} {k : Nat} (h : k < ps.length) : parK own l ps (k + 1) = stepP own k (parK own l ps k) ps[k] := by
  show stepP own k _ (ps.getD k 0) = _
  rw [gd_at h]
def RowP (B : Nat) (w : World) (v : Value) (l : List Int) (i : Int) (ps : List Int) (e : Ending) (w' : World) : Prop := e = .returned (.int .i64 (takeK l i : Nat)) ∧ ∃ v', LStep B w v w' v' (rowL l i ps)
set_option maxHeartbeats 2000000 in
theorem row_any (B : Nat) (v pv : Value) (l : List Int) (i : Int) (ps : List Int) (w : World) (h : LBx w B v l) (hp : ∀ V, Below B w V → IntsV V pv ps) (hl : l.length ≤ 10000) (hm : ps.length ≤ 10000) :
    Calls Tryd.prog 17 #[.pointer (some ⟨B, 0, none⟩), .int .i64 i, pv] w fun e w' => RowP B w v l i ps e w' := by
  unfold RowP
  have H0 := hidM h
  have HP := hidM hp
  obtain ⟨pa, pn, pc, hpv⟩ : ∃ a n c, pv = .slice a n c := by obtain ⟨a, c, hv, _⟩ := hp w (Below.refl _ _); exact ⟨_, _, _, hv⟩
  subst hpv
  have hpn : pn = ps.length := by obtain ⟨a, c, hv, _⟩ := hp w (Below.refl _ _); cases hv; rfl
  subst hpn
  obtain ⟨m, hmm⟩ : ∃ m, ps.length = m := ⟨_, rfl⟩
  have HM := hidM hmm
  rw [hmm] at hm HP ⊢
  have HTK := hidM (take_any B v l i w h (by omega))
  clear h hp hmm
  have HDONE : Hid (rowL l i ps = parK (takeK l i) (ownL l i) ps ps.length) := rfl
  have HSTART : Hid ((freeL l i).set (takeK l i) (-1) = ownL l i) := freeL_set l i (-1)
  have HFL := hidM (freeL_len l i)
  have HLO : Hid ((ownL l i).length ≤ 10001) := by have := ownL_le l i; unfold Hid; omega
  have HOL : Hid (takeK l i < (ownL l i).length) := setL_len (takeK_le _ _)
  go_enter Tryd.func17, Tryd.ntmps17
  go_wp2_with fail
  refine HTK.out.mono ?_
  rintro _ w1 ⟨rfl, v1, hs1⟩
  have HS1 := hidM hs1
  clear hs1 HTK
  obtain ⟨own, ho⟩ : ∃ own, takeK l i = own := ⟨_, rfl⟩
  rw [ho] at HDONE HSTART HFL HOL ⊢
  have HOW := hidM ho
  clear ho
  obtain ⟨g1, c1, hv1, cq, fq⟩ := HS1.out.lb.form HFL.out
  subst hv1
  have cb := HS1.out.lb.cell
  have kq : (own : Int) < ((freeL l i).length : Int) := by have := HFL.out; omega
  have HS2 := hidM (HS1.out.trans (HS1.out.lb.set own (-1)))
  rw [HSTART.out] at HS2
  generalize (freeL l i)[own]'HFL.out = y at *
  generalize freeL l i = LF at *
  generalize LF.length = nf at *
  clear HS1 HSTART HFL
  go_wp2
  go_loopw [21] (fun iv wr => ∃ (k : Nat) (v' : Value), k ≤ m ∧ iv = .int .i64 k ∧ Hid (LStep B w v wr v' (parK own (ownL l i) ps k))) (fun iv _ => m - (intOf iv).toNat)
  case atStart => exact ⟨0, _, Nat.zero_le _, rfl, HS2⟩
  case round =>
    obtain ⟨k, vv, hk, rfl, HK⟩ := hrel
    clear HS2 cb cq fq kq
    by_cases hlt : k < m
    · have kk : (k : Int) < (m : Int) := by omega
      have hkp : k < ps.length := by rw [HM.out]; exact hlt
      have HNX := hidM (parK_next (own := own) (l := ownL l i) hkp)
      have HBE := hidM (HK.out.below H0.out)
      obtain ⟨a, c, hv, _, _, hs⟩ := HP.out wr HBE.out
      obtain ⟨g, o, ha, hg, hat⟩ := hs (fun h => by rw [h] at hkp; simp at hkp)
      have hpa : pa = some ⟨g, o, none⟩ := by rw [ha] at hv; simp at hv; exact hv.1
      have ck := hat k hkp
      clear hv ha
      subst hpa
      have HPL := hidM (parK_le own (ownL l i) ps k)
      have hLK : (parK own (ownL l i) ps k).length ≤ 1000000 := by have h1 := HPL.out; have h2 := HLO.out; omega
      have HOWN : Hid (own < (parK own (ownL l i) ps k).length) := by have h1 := HPL.out.1; have h2 := HOL.out; unfold Hid; omega
      have cb := HK.out.lb.cell
      clear hs hat
      obtain ⟨p, hpe⟩ : ∃ p, ps[k] = p := ⟨_, rfl⟩
      rw [hpe] at ck HNX
      clear hpe
      obtain ⟨LN, hLN⟩ : ∃ LN, parK own (ownL l i) ps (k + 1) = LN := ⟨_, rfl⟩
      rw [hLN] at HNX
      have HNX2 := hidM hLN
      clear hLN
      clear HPL HDONE
      generalize parK own (ownL l i) ps k = LK at *
      obtain ⟨xa, xc, hvv, -⟩ := HK.out.lb.own.shape
      by_cases h0 : k = 0
      · by_cases hm : p ∈ LK
        · have HCK := hidM (containsL_any _ LK p wr HK.out.lb.own.ints hLK)
          have hdm : decide (p ∈ LK) = true := by simpa using hm
          rw [hdm] at HCK
          subst h0
          rw [Nat.add_zero] at ck
          have HHM := hidM hm
          clear hm hdm
          subst hvv
          go_wp2_with fail
          refine HCK.out.mono ?_
          rintro _ wq ⟨rfl, hq⟩
          rw [hq]
          clear hq HCK
          go_wp2_with fail
          refine (take_any B _ LK p wr HK.out.lb hLK).mono ?_
          rintro _ w3 ⟨rfl, v3, hs3⟩
          have HS3 := hidM (HK.out.trans hs3)
          clear hs3
          obtain ⟨q, hq⟩ : ∃ q, takeK LK p = q := ⟨_, rfl⟩
          have HQ : Hid ((freeL LK p).set q p = LN) := by unfold Hid; rw [← hq, freeL_set, HNX.out, stepP_put (fun h => h.2 HHM.out)]; rfl
          have hql : q < (freeL LK p).length := by rw [← hq]; exact freeL_len _ _
          rw [hq]
          clear hq
          generalize freeL LK p = LF at *
          obtain ⟨g3, c3, hv3, cq, fq⟩ := HS3.out.lb.form hql
          subst hv3
          have cb3 := HS3.out.lb.cell
          have kq : (q : Int) < (LF.length : Int) := by omega
          have HS4 := hidM (HS3.out.trans (HS3.out.lb.set q p))
          rw [HQ.out] at HS4
          generalize LF[q] = y at *
          generalize LF.length = nf at *
          clear HS3
          go_wp2
          go_roundw
          case rel => exact ⟨0 + 1, _, by omega, by go_num, by rw [HNX2.out]; exact HS4⟩
          case measure => (show m - ((0 : Int) + 1).toNat < m - ((0 : Int)).toNat); omega
        · subst h0
          rw [Nat.add_zero] at ck
          have hql : own < LK.length := HOWN.out
          obtain ⟨g3, c3, hv3, cq, fq⟩ := HK.out.lb.form hql
          subst hv3
          have kq : (own : Int) < (LK.length : Int) := by omega
          have HS4 := hidM (HK.out.trans (HK.out.lb.set own p))
          have HQ : Hid (LK.set own p = LN) := by unfold Hid; rw [HNX.out, stepP_own rfl hm]
          rw [HQ.out] at HS4
          have HCK := hidM (containsL_any _ LK p wr HK.out.lb.own.ints hLK)
          have hdm : decide (p ∈ LK) = false := by simpa using hm
          rw [hdm] at HCK
          have cb := HK.out.lb.cell
          generalize LK[own] = y at *
          generalize LK.length = nf at *
          clear hm hdm
          go_wp2_with fail
          refine HCK.out.mono ?_
          rintro _ wq ⟨rfl, hq⟩
          rw [hq]
          clear hq
          go_wp2
          go_roundw
          case rel => exact ⟨0 + 1, _, by omega, by go_num, by rw [HNX2.out]; exact HS4⟩
          case measure => (show m - ((0 : Int) + 1).toNat < m - ((0 : Int)).toNat); omega
      · have k0 : (0 : Int) < (k : Int) := by omega
        have HK0 := hidM h0
        clear h0
        subst hvv
        go_wp2_with fail
        refine (take_any B _ LK p wr HK.out.lb hLK).mono ?_
        rintro _ w3 ⟨rfl, v3, hs3⟩
        have HS3 := hidM (HK.out.trans hs3)
        clear hs3
        obtain ⟨q, hq⟩ : ∃ q, takeK LK p = q := ⟨_, rfl⟩
        have HQ : Hid ((freeL LK p).set q p = LN) := by unfold Hid; rw [← hq, freeL_set, HNX.out, stepP_put (fun h => HK0.out h.1)]; rfl
        have hql : q < (freeL LK p).length := by rw [← hq]; exact freeL_len _ _
        rw [hq]
        clear hq
        generalize freeL LK p = LF at *
        obtain ⟨g3, c3, hv3, cq, fq⟩ := HS3.out.lb.form hql
        subst hv3
        have cb3 := HS3.out.lb.cell
        have kq : (q : Int) < (LF.length : Int) := by omega
        have HS4 := hidM (HS3.out.trans (HS3.out.lb.set q p))
        rw [HQ.out] at HS4
        generalize LF[q] = y at *
        generalize LF.length = nf at *
        clear HS3
        go_wp2
        go_roundw
        case rel => exact ⟨k + 1, _, by omega, by go_num, by rw [HNX2.out]; exact HS4⟩
        case measure => (show m - ((k : Int) + 1).toNat < m - ((k : Int)).toNat); omega
    · have hkm : k = m := by omega
      subst hkm
      have kk : ¬ (k : Int) < (k : Int) := by omega
      have HR : Hid (LStep B w v wr vv (rowL l i ps)) := by
        unfold Hid
        rw [HDONE.out, HM.out]
        exact HK.out
      clear HK
      go_wp2
      go_ret
      exact ⟨by rw [HOW.out]; rfl, _, HR.out⟩
set_option maxHeartbeats 1000000 in
theorem clone_any (v : Value) (l : List Int) (B : Nat) (w : World) (h : OwnI w B v l) (h0 : l ≠ []) (hl : l.length ≤ 10000) :
    Calls Tryd.prog 18 #[v] w fun e w' => ∃ v', e = .returned v' ∧ OwnI w' w.heap.size v' l ∧ Below w.heap.size w w' := by
  have HI := hidM h.ints
  obtain ⟨a, c, rfl, hc, hs⟩ := h.shape
  obtain ⟨g, rfl, -⟩ := hs (List.length_pos_iff.2 h0)
  have HNW := hidM HI.out.news.2
  obtain ⟨n, hn⟩ : ∃ n, l.length = n := ⟨_, rfl⟩
  have HN := hidM hn
  rw [hn] at hl ⊢
  clear h hs hc hn h0
  have q45 : ∀ (w : World) (a : Option Addr) (n c n' c' : Nat), (binOp .eql 45 (.slice a n c) (.slice none n' c')).run Tryd.prog w = .ok (.bool a.isNone) w := fun w a n c n' c' => Lib.run_eql_slice_nil w _ _ a n c n' c' Tryd.underlying45
  go_enter Tryd.func18, Tryd.ntmps18
  go_wp2_with (at_builtin; refine wpList_append_own _ rfl _ _ 45 rfl w.heap.size 3 I3 (.int .i64 0) 1 8 Tryd.underlying45 I3a I3b I3c I3d rfl (by decide) _ _ _ rfl (own_made 3 w _ (Nat.le_refl _)) ⟨g, 0, none⟩ n c (intsV l) rfl ?qc1 ?qc2 ?qc3 ?qc4 ?qc5 ?qc6 ?_)
  case qc1 => rw [intsV_len, HN.out] <;> omega
  case qc2 => exact fun j u hj => Lib.cell?_alloc_some _ (HNW.out j u hj)
  case qc3 => exact intsV_one l
  case qc4 => unfold maxLen; omega
  case qc5 => omega
  case qc6 => simp
  intro v1 w1 hown hgrow hnil
  have HB1 : Hid (Below w.heap.size w w1) := grown_made hgrow
  have HO1 : Hid (OwnI w1 w.heap.size v1 l) := by
    unfold Hid OwnI OwnV
    rw [intsV_len, HN.out]
    simpa using hown
  clear hown hgrow hnil
  go_wp2
  go_ret
  exact ⟨_, rfl, HO1.out, HB1.out⟩
end Go.Proofs.YthgmabbnmoembaaDoor
