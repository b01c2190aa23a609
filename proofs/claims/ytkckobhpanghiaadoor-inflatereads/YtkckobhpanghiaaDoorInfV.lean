/-
  Walks of inflate: bytes come out once more.
-/
import Derived.Test.YtkckobhpanghiaaDoorInfU
import Derived.Deep.AppendLies
import Derived.Deep.RegionLaw
import Derived.Deep.DrawnRows
namespace Go.Proofs.YtkckobhpanghiaaDoor
open Go.RowKit

theorem OwnB.cell {w : World} {B : Nat} {v : Value} {l : List UInt8} (h : OwnB w B v l) (hn : 0 < l.length) : ∃ g cap, v = .slice (some ⟨g, 0, none⟩) l.length cap ∧ B ≤ g ∧ g < w.heap.size ∧ ∀ j (hj : j < l.length), w.cell? ⟨g, j, none⟩ = some (.int .u8 (l[j].toNat : Int)) := by
  have h' := h
  rcases h.2 with ⟨_, h0⟩ | ⟨g, cap, cur, hv, hg, hc, hr⟩
  · omega
  · subst hv
    refine ⟨g, cap, rfl, hg, (Array.getElem?_eq_some_iff.1 hc).1, fun j hj => ?_⟩
    have := World.ownsRow.cells h' (g := g) rfl j (.int .u8 (l[j].toNat : Int)) (bytesV_at l j hj)
    rw [Addr.add_lit, Nat.zero_add] at this
    exact this
theorem i64_small (n : Int) (h0 : -1000000000000 ≤ n) (h1 : n < 1000000000000) : IntKind.i64.wrap n = n := by
  rw [IntKind.wrap_i64]; omega

theorem again_next (o : List UInt8) (d n : Nat) (h0 : 0 < d) (hd : d ≤ o.length) : ∃ h : (again o d n).length - d < (again o d n).length, again o d (n + 1) = again o d n ++ [(again o d n)[(again o d n).length - d]] := by
  have hl := again_len o d n
  refine ⟨by omega, ?_⟩
  rw [again, List.getElem?_eq_getElem (by omega)]
  rfl

set_option maxHeartbeats 4000000 in
set_option maxRecDepth 100000 in
theorem repeat_any (B : Nat) (X : ByteArray) (t l s most : Nat) (last : Bool) (v : Value) (o : List UInt8) (p1 p2 p3 p4 : Value) (cd : Cd) (w : World) (hS : StS w B X t most last v o p1 p2 p3 p4) (hc : cd.Ok) (hT : TabQ w B p2 cd) (hX : X.size ≤ 1000000) (hl : t + l = 8 * X.size) (hm : most ≤ 65536) (ho : o.length ≤ most) (hs : 256 < s) (hs2 : s ≤ 320) :
    Calls Tryd.prog 52 #[.pointer (some ⟨B + 1, 0, none⟩), .int .i64 (s : Int)] w fun e w' => ∃ r, Rep X.data.toList most cd t s o r ∧ StepPost B X most last p1 p2 p3 p4 r w e w' := by
  obtain ⟨i0, hi, hz0, hz1, hz2⟩ := info5_parts
  have HS := hidM hS
  have HT := hidM hT
  have HLL := hidM hl
  have HL := hidM (readLength_any (B + 1) B X t l s w hS.box.c0 hS.rd (by omega) hl (by omega) hs2)
  clear hS hT hl
  go_enter Tryd.func52, Tryd.ntmps52
  go_wp2_with fail
  refine HL.out.mono ?_
  rintro _ w1 ⟨hp, ho1⟩
  have HO1 := hidM ho1
  have HK1 : Hid (Kept B w w1) := ho1.kept
  clear ho1
  rcases hp with ⟨h1, rfl⟩ | ⟨h1, h2, y, rfl⟩ | ⟨h1, x, h2, hx, rfl, h3⟩
  · have HR : Hid (Rep X.data.toList most cd t s o (.bad 3)) := .high h1
    clear h1
    go_wp2
    go_ret
    exact ⟨_, HR.out, by decide, rfl, HK1.out.below⟩
  · have HR : Hid (Rep X.data.toList most cd t s o (.bad 6)) := .len6 h1 h2
    clear h1 h2
    go_wp2
    go_ret
    exact ⟨_, HR.out, by decide, rfl, HK1.out.below⟩
  · have HNX := hidM h2
    have HS1 := hidM (HS.out.read h3 HO1.out)
    have HT1 := hidM (HT.out.kept HK1.out)
    have hle := lenOf_le (s := s) (by omega) h1
    have htl : t + (lenOf s).2 ≤ 8 * X.size := by
      have h := h2
      unfold num at h
      rw [total_size] at h
      split at h
      · assumption
      · cases h
    have HD := hidM (readDistance_any B X (t + (lenOf s).2) (8 * X.size - (t + (lenOf s).2)) most last v o p1 p2 p3 p4 cd w1 HS1.out hc HT1.out hX (by omega))
    have HRB : Hid (∀ r, (∀ e, SymR cd X.data.toList (t + (lenOf s).2) (.inl e) → r = .bad e → Rep X.data.toList most cd t s o r)) := fun r e hsym hr => by rw [hr]; exact .dist x e h1 h2 hsym
    clear h2 h3 HO1 HS HT htl
    obtain ⟨LN, hLN⟩ : ∃ LN, LN = (lenOf s).1 + x := ⟨_, rfl⟩
    have hLN1 : LN ≤ 300 := by omega
    have HLN := hidM hLN
    rw [← hLN]
    clear hLN hle
    go_wp2_with fail
    refine HD.out.mono ?_
    rintro _ w2 ⟨hp, ho2⟩
    have HO2 := hidM ho2
    have HK2 : Hid (Kept B w w2) := HK1.out.trans ho2.kept
    clear ho2
    rcases hp with ⟨n, hsym, hn0, y, rfl⟩ | ⟨k, t2, hsym, hk, y, rfl⟩ | ⟨k, t2, hsym, hk, hnone, y, rfl⟩ | ⟨k, t2, dx, hsym, hk, hsome, hdx, rfl, hrd⟩
    · have HR := hidM (HRB.out (.bad n) n hsym rfl)
      have e0 : ((n : Int) == 0) = false := by simp; omega
      clear hsym
      go_wp2
      go_ret
      exact ⟨_, HR.out, hn0, rfl, HK2.out.below⟩
    · have HR : Hid (Rep X.data.toList most cd t s o (.bad 3)) := .dhigh x k t2 h1 HNX.out hsym hk
      clear hsym
      go_wp2
      go_ret
      exact ⟨_, HR.out, by decide, rfl, HK2.out.below⟩
    · have HR : Hid (Rep X.data.toList most cd t s o (.bad 6)) := .dist6 x k t2 h1 HNX.out hsym hk hnone
      clear hsym hnone
      go_wp2
      go_ret
      exact ⟨_, HR.out, by decide, rfl, HK2.out.below⟩
    · have hdl := distOf_le hk
      obtain ⟨DD, hDD⟩ : ∃ DD, DD = (distOf k).1 + dx := ⟨_, rfl⟩
      have hD0 : 0 < DD := by omega
      have hD1 : DD ≤ 40000 := by omega
      have HDD := hidM hDD
      have HSM := hidM hsym
      have HSO := hidM hsome
      have HS2 := hidM (HS1.out.read hrd HO2.out)
      rw [← hDD]
      clear hDD hdl hsym hsome hrd HO2 HD HS1
      obtain ⟨a, cp, rfl⟩ := HS2.out.own.shape
      have c1 := HS2.out.box.c1
      by_cases hfar : o.length < DD
      · have e0 : (o.length : Int) < (DD : Int) := by omega
        have HR : Hid (Rep X.data.toList most cd t s o (.bad 3)) := .far x k t2 dx h1 HNX.out HSM.out hk HSO.out (by have := HDD.out; omega)
        go_wp2
        go_ret
        exact ⟨_, HR.out, by decide, rfl, HK2.out.below⟩
      · have e0 : ¬ (o.length : Int) < (DD : Int) := by omega
        by_cases hbig : most < o.length + LN
        · have e1 : ((most - o.length : Nat) : Int) < (LN : Int) := by omega
          have HR : Hid (Rep X.data.toList most cd t s o (.bad 2)) := .big x k t2 dx h1 HNX.out HSM.out hk HSO.out (by have := HDD.out; omega) (by have := HLN.out; omega)
          go_wp2_with fail
          refine (room_any (B + 1) B most a o.length cp p1 p2 p3 p4 last w2 HS2.out.box hm ho).mono ?_
          rintro _ w3 ⟨rfl, m3, rfl⟩
          obtain ⟨rm, hrm⟩ : ∃ rm, rm = most - o.length := ⟨_, rfl⟩
          rw [← hrm]
          rw [← hrm] at e1
          clear hrm
          go_wp2
          go_ret
          exact ⟨_, HR.out, by decide, rfl, HK2.out.below.trans (below_drewN (Below.refl _ _) m3)⟩
        · have e1 : ¬ ((most - o.length : Nat) : Int) < (LN : Int) := by omega
          have HR : Hid (Rep X.data.toList most cd t s o (.good (t2 + (distOf k).2) (again o DD LN))) := by
            have h := Rep.good (X := X.data.toList) (most := most) (cd := cd) (t := t) (s := s) (o := o) x k t2 dx h1 HNX.out HSM.out hk HSO.out (by have := HDD.out; omega) (by have := HLN.out; omega)
            rw [← HDD.out, ← HLN.out] at h
            exact h
          go_wp2_with fail
          refine (room_any (B + 1) B most a o.length cp p1 p2 p3 p4 last w2 HS2.out.box hm ho).mono ?_
          rintro _ w3 ⟨rfl, m3, rfl⟩
          obtain ⟨rm, hrm⟩ : ∃ rm, rm = most - o.length := ⟨_, rfl⟩
          rw [← hrm]
          rw [← hrm] at e1
          have eb : decide (rm < LN) = false := by simp; omega
          clear hrm
          have HS3 : Hid (StS (w2.drewN m3) B X (t2 + (distOf k).2) most last (.slice a o.length cp) o p1 p2 p3 p4) := ⟨HS2.out.rd, HS2.out.box, HS2.out.own⟩
          have HK3 : Hid (Kept B w (w2.drewN m3)) := ⟨HK2.out.below.trans (below_drewN (Below.refl _ _) m3), HK2.out.keep⟩
          generalize w2.drewN m3 = w3 at *
          generalize t2 + (distOf k).2 = T3 at *
          clear HS2 HK2 c1 HSM HSO HDD HLN HNX HRB
          go_wp2
          go_loopw [37] (fun iv wr => ∃ (j : Nat) (u : Value), j ≤ LN ∧ iv = .int .i64 j ∧ StS wr B X T3 most last u (again o DD j) p1 p2 p3 p4 ∧ Kept B w wr) (fun i _ => LN - (intOf i).toNat)
          case atStart => exact ⟨0, _, Nat.zero_le _, rfl, HS3.out, HK3.out⟩
          case round =>
            obtain ⟨j, u, hj, rfl, hst, hkp⟩ := hrel
            have HST := hidM hst
            have HKP := hidM hkp
            clear hst hkp HS3 HK3
            by_cases hlt : j < LN
            · have kk : (j : Int) < (LN : Int) := by omega
              obtain ⟨hpl, hag⟩ := again_next o DD j hD0 (by omega)
              have hal := again_len o DD j
              have HAG := hidM hag
              clear hag
              obtain ⟨g, cap, rfl, hgB, hgl, hcell⟩ := HST.out.own.cell (by omega)
              have hcp := hcell _ hpl
              generalize (again o DD j)[(again o DD j).length - DD] = cc at *
              generalize again o DD j = oo at *
              obtain ⟨pp, hpp⟩ : ∃ pp, pp = oo.length - DD := ⟨_, rfl⟩
              rw [← hpp] at hcp
              have e2 : (oo.length : Int) - (DD : Int) = (pp : Int) := by omega
              have e3 : (pp : Int) < (oo.length : Int) := by omega
              have c1 := HST.out.box.c1
              have hB1 := HST.out.box.lt
              have n1 := World.new_ne wr _ c1
              have n2 := World.new_ne wr _ hcp
              have k1 : ∀ ob, (wr.alloc ob).cell? ⟨B + 1, 1, none⟩ = some (.slice (some ⟨g, 0, none⟩) oo.length cap) := fun ob => (World.cell?_alloc_some wr _ ob (by rw [c1]; rfl)).trans c1
              have k2 : ∀ ob, (wr.alloc ob).cell? ⟨g, pp, none⟩ = some (.int .u8 (cc.toNat : Int)) := fun ob => (World.cell?_alloc_some wr _ ob (by rw [hcp]; rfl)).trans hcp
              have HOW := hidM HST.out.own
              have h65 : oo.length ≤ 70000 := by omega
              have ew : IntKind.i64.wrap (pp : Int) = (pp : Int) := i64_small (pp : Int) (by omega) (by omega)
              clear hcell hpp hpl hal
              have HBL : Hid (∀ ob, Below wr.heap.size wr (wr.drew.alloc ob)) := fun ob => by
                have h := (Below.refl wr.heap.size wr).alloc (Nat.le_refl _) ob
                exact ⟨h.os, h.tape, h.output, h.size, h.block⟩
              go_wp2
              go_region_law ((refine step_append_lies _ rfl (.tmp 43) (.tmp 57) 34 (by rfl) (B + 2) 5 i0 (.int .u8 0) 1 1 Tryd.underlying34 hi hz0 hz1 hz2 rfl (by decide) (.slice (some ⟨g, 0, none⟩) oo.length cap) oo.length (bytesV oo) (by rfl) (World.ownsRow.alloc HOW.out _) ⟨wr.heap.size, 0, none⟩ 1 1 [.int .u8 (cc.toNat : Int)] (by rfl) (by rfl) (World.news_of_block (heap_alloc_new _ _)) (by intro u hu; simp at hu; subst hu; rfl) (by decide) (by unfold maxLen; omega) (by omega) (by simp; omega) (wr.heap.size + 1) (by simp) ?_; intro g2 cap2 w5 hown hgrow hat hlt5; obtain ⟨⟨q0, q1⟩, hst5, hkp5⟩ := HST.out.grow (l := [cc]) (HBL.out _) hgrow hown; have HS5 := hidM hst5; have HK5 : Hid (Kept B w _) := HKP.out.trans hkp5; clear hown hgrow hat hlt5 hst5 hkp5))
              all_goals
                clear c1 k1 k2 n1 n2 q0 q1
                generalize w5.setCell ⟨B + 1, 1, none⟩ (.slice (some ⟨g2, 0, none⟩) (oo.length + 1) cap2) = w6 at *
                go_wp2
                go_roundw
                case rel => exact ⟨j + 1, _, by omega, by go_num, by rw [HAG.out]; exact HS5.out, HK5.out⟩
                case measure => (show LN - ((j : Int) + 1).toNat < LN - ((j : Int)).toNat); omega
            · obtain rfl : j = LN := by omega
              go_wp2
              go_ret
              exact ⟨_, HR.out, rfl, _, HST.out, HKP.out⟩
end Go.Proofs.YtkckobhpanghiaaDoor
