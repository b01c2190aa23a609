/-
  CartularyCodes: symbols written by their codes, with whole bytes between, are read back: the walk.
-/
import Derived.Test.YtpidofgmbjkbiaaCodA
namespace Go.Proofs.Ytpidofgmbjkbiaa
open Go.RowKit

set_option maxRecDepth 20000 in
set_option maxHeartbeats 4000000 in
theorem codes_walk (a a2 : Option Addr) (len cap len2 cap2 : Nat) (f f2 : Nat → Int) (X0 : ByteArray) (w : World) (hf : IntsAt w a len .i64 f) (hn : a = none → len = 0 ∧ cap = 0) (hcap : len ≤ cap) (hf2 : IntsAt w a2 len2 .i64 f2) :
    Calls Try.prog 8 #[.slice a len cap, .slice a2 len2 cap2, .string X0] w fun e w' => e = .returned (.bool true) ∧ Below w.heap.size w w' := by
  obtain ⟨i0, hi, hz0, hz1, hz2⟩ := info_parts Try.info3
  have hlen2 : len2 ≤ 9223372036854775807 := by have := hf2.1; unfold maxLen at this; omega
  have hlen : len ≤ 9223372036854775807 := by have := hf.1; unfold maxLen at this; omega
  have HF := hidM hf
  have HN := hidM hn
  have HF2 := hidM hf2
  have HA := hidM (f122_at w)
  have HB0 : Hid (Below w.heap.size w (w.alloc (.cells #[.int .i64 1, .int .i64 2, .int .i64 2] 3))) := (Below.refl _ _).alloc (Nat.le_refl _) _
  clear hf hn hf2
  go_enter Try.func8, Try.ntmps8
  go_wp2_with fail
  refine (new_any _ 3 3 f122 _ HA.out).mono ?_
  rintro e wa ⟨hp, hb1⟩
  obtain ⟨b', ln', rfl, ht, hc, hl⟩ := f122_new hp
  have HT' := hidM ht
  have HC := hidM hc
  have HL := hidM hl
  have HBA : Hid (Below w.heap.size w wa) := HB0.out.trans (hb1.mono HB0.out.size)
  clear hp ht hb1 hc hl
  go_wp2_with fail
  refine (code_in b' 2 ln' 3 wa HT'.out (by decide)).mono ?_
  rintro e w1 ⟨rfl, hb2⟩
  rw [HC.out, HL.out]
  have HB1 : Hid (Below w.heap.size w w1) := HBA.out.trans (hb2.mono HBA.out.size)
  clear hb2 HT' HC HL HA HB0 HBA
  by_cases hgt : 400 < len
  case' pos =>
    obtain ⟨ad, rfl⟩ : ∃ ad, a = some ad := by
      cases a with
      | none => have := (HN.out rfl).1; omega
      | some ad => exact ⟨ad, rfl⟩
    have HFM : Hid (IntsAt w1 (some ad) 400 .i64 f) := (HF.out.below HB1.out).cut (by omega)
    go_wp2_with fail
    refine (fewS_any X0 20 w1).mono ?_
    rintro e wz ⟨⟨X, rfl, hX, _⟩, rfl⟩
    go_wp2_with fail
    refine (new_any _ 400 _ f _ HFM.out).mono ?_
    rintro e w2 ⟨hp, hb2⟩
    have HP : Hid (∃ m, m ≤ 400 ∧ NewPost f m e w2) := ⟨400, Nat.le_refl _, hp⟩
    clear HFM
  case' neg =>
    have HFM : Hid (IntsAt w1 a len .i64 f) := HF.out.below HB1.out
    go_wp2_with fail
    refine (fewS_any X0 20 w1).mono ?_
    rintro e wz ⟨⟨X, rfl, hX, _⟩, rfl⟩
    go_wp2_with fail
    refine (new_any _ len _ f _ HFM.out).mono ?_
    rintro e w2 ⟨hp, hb2⟩
    have HP : Hid (∃ m, m ≤ 400 ∧ NewPost f m e w2) := ⟨len, by omega, hp⟩
    clear HFM
  all_goals
    have HB2 : Hid (Below w.heap.size w w2) := HB1.out.trans (hb2.mono HB1.out.size)
    clear hb2 hp
    obtain ⟨m, m400, hp⟩ := HP.out
    clear HP
    have hcase : (∃ r : Int, r ≠ 0 ∧ e = .returned (.tuple #[.pointer none, .int .i64 r])) ∨ (m ≤ 320 ∧ ∃ ln b, (∀ i, ln i ≤ 15) ∧ Fit ln m ∧ e = .returned (.tuple #[.pointer (some ⟨b, 0, none⟩), .int .i64 0]) ∧ Tab w2 b ln m) := by
      rcases hp with ⟨_, he⟩ | ⟨_, _, he⟩ | ⟨h3, ln, _, h15, ⟨_, he⟩ | ⟨hfit, b, he, ht⟩⟩
      · exact .inl ⟨2, by decide, he⟩
      · exact .inl ⟨1, by decide, he⟩
      · exact .inl ⟨4, by decide, he⟩
      · exact .inr ⟨h3, ln, b, h15, hfit, he, ht⟩
    clear hp
    rcases hcase with ⟨r, hr, rfl⟩ | ⟨h320, ln, b, h15, hfit, rfl, htab⟩
    · have hrb : (r != 0) = true := by simpa using hr
      go_wp2
      go_ret
      exact ⟨rfl, HB2.out⟩
    · have H15 := hidM h15
      have HKR := hidM hfit.le
      have HT := hidM htab
      clear h15 hfit htab
      have HS0 := hidM (BSz.new w w2 w2 HB2.out (Below.refl _ _))
      have HW := hidM HB2.out.size
      go_wp2
      generalize hbw : w2.heap.size = bw at *
      have HBW := hidM hbw
      have HW2 : Hid (w2.heap.size ≤ bw) := by unfold Hid; rw [hbw]; exact Nat.le_refl _
      clear hbw
      go_loopw [13, 14, 15, 16] (fun v i _ _ wr => ∃ (k : Nat) (P : List Int) (N T : Nat), k ≤ len2 ∧ k ≤ 60 ∧ i = .int .i64 k ∧ P.length ≤ 2 * k ∧ T ≤ 200 * k ∧ N < 2 ^ T ∧ Laid ln m X N T 0 P ∧ BSz w w2 bw wr v P N T) (fun _ i _ _ _ => 60 - (intOf i).toNat)
      case atStart => exact ⟨0, [], 0, 0, Nat.zero_le _, by decide, rfl, Nat.le_refl _, Nat.le_refl _, by decide, rfl, HS0.out⟩
      case round =>
        obtain ⟨k, P, N, T, hk, hk60, rfl, hPk, hTk, hNT, hlaid, hbs⟩ := hrel
        have HG := hidM hlaid
        have HNT := hidM hNT
        have HS := hidM hbs
        clear hlaid hbs hNT HS0
        by_cases hlt : k < len2 ∧ k < 60
        · obtain ⟨hl1, hl2⟩ := hlt
          obtain ⟨bb, off, rfl, hc⟩ := (HF2.out.below HS.out.b1).get k hl1
          have HBN := bounds_i64 (HF2.out.2.1 k)
          generalize f2 k = c at *
          have HTW : Hid (Tab wr b ln m) := HT.out.below HS.out.b2
          by_cases hin : 0 ≤ c ∧ c < (m : Int)
          · obtain ⟨s, rfl⟩ : ∃ s : Nat, c = (s : Int) := ⟨c.toNat, by omega⟩
            have hsm : s < m := by omega
            clear hin HBN
            go_wp2_with fail
            refine (code_in b s ln m wr HTW.out hsm).mono ?_
            rintro e w4 ⟨rfl, hb4⟩
            have HS4 := hidM (HS.out.below hb4)
            have hs15 := H15.out s
            have HC32 := hidM (code32 ln m s H15.out HKR.out hsm)
            obtain ⟨x, hx⟩ : ∃ x, x = codeC ln m s := ⟨_, rfl⟩
            obtain ⟨n, hn⟩ : ∃ n, n = ln s := ⟨_, rfl⟩
            rw [← hx, ← hn]
            rw [← hn] at hs15
            have HX := hidM hx
            have HNN := hidM hn
            have hxx : x < 4294967296 := by rw [hx]; exact HC32.out.2
            have hc4 : w4.cell? ⟨bb, off + k, none⟩ = some (.int .i64 (s : Int)) := by
              have hh := hb4.cell (p := ⟨bb, off + k, none⟩) (World.block_lt_of_cell? wr _ hc)
              rw [hh, hc]
            clear hb4 hx hn hc HTW HS
            by_cases hn0 : 0 < n
            · have hn00 : ¬ n = 0 := by omega
              go_wp2_with fail
              refine (bz_code w w2 bw _ _ x n _ P w4 HS4.out HW.out HW2.out (by omega) (by omega) hn0 hxx).mono ?_
              rintro e w5 ⟨rfl, hbs5⟩
              have HS5 := hidM hbs5
              have hc5 : w5.cell? ⟨bb, off + k, none⟩ = some (.int .i64 (s : Int)) := by
                obtain ⟨b', o', he, hd⟩ := (HF2.out.below hbs5.b1).get k hl1
                obtain ⟨b'', o'', he', hd'⟩ := (HF2.out.below HS4.out.b1).get k hl1
                simp only [Option.some.injEq, Addr.mk.injEq, and_true] at he he'
                obtain ⟨rfl, rfl⟩ := he
                rw [hd, ← hd']
                obtain ⟨rfl, rfl⟩ := he'
                exact hc4
              have HSZ : Hid (bw + 1 ≤ w5.heap.size) := HS5.out.wat.lt
              have HPL : Hid (P.length ≤ 2 * k) := hPk
              have HLD : Hid (Laid ln m X (N + 2 ^ T * turned x n) (T + n) 0 (P ++ [(s : Int)]) ∧ N + 2 ^ T * turned x n < 2 ^ (T + n)) := by
                unfold Hid
                rw [HX.out, HNN.out]
                exact HG.out.sym H15.out HKR.out HNT.out hsm (by rw [← HNN.out]; exact hn0)
              clear hbs5 hc4
              go_wp2_with (first
                | (at_builtin; refine wpList_append_own _ rfl _ _ 22 rfl (bw + 1) 3 i0 (.int .i64 0) 1 8 Try.underlying22 hi hz0 hz1 hz2 rfl (by decide) _ _ _ rfl (World.ownsRow.alloc HS5.out.own.1 _) ⟨w5.heap.size, 0, none⟩ 1 1 [.int .i64 (s : Int)] ?c0 rfl ?c1 ?c2 ?c3 ?c4 ?c5 ?_))
              case c0 => rfl
              case c1 => exact new_cell w5 _
              case c2 => intro u hu; simp at hu; subst hu; rfl
              case c3 => have := HPL.out; unfold maxLen; simp; omega
              case c4 => have := HPL.out; simp; omega
              case c5 => have := HSZ.out; simp; omega
              intro v' w6 hown hgr _
              have HS6 := hidM (HS5.out.push (s := (s : Int)) HW.out HW2.out hgr hown)
              clear hown hgr hc5 HS5
              have HSZ6 : Hid (bw + 1 ≤ w6.heap.size) := HS6.out.wat.lt
              obtain ⟨N1, hN1⟩ : ∃ N1, N1 = N + 2 ^ T * turned x n := ⟨_, rfl⟩
              rw [← hN1] at HS6 HLD
              clear hN1
              have hPP : (P ++ [(s : Int)]).length = P.length + 1 := by simp
              obtain ⟨P1, hP1⟩ : ∃ P1, P1 = P ++ [(s : Int)] := ⟨_, rfl⟩
              rw [← hP1] at HS6 HLD hPP
              clear hP1
              have HPP := hidM hPP
              clear hPP
              by_cases h7 : k % 7 = 3
              · have t7 : (k : Int).tmod 7 = 3 := by rw [Int.tmod_eq_emod_of_nonneg (by omega)]; omega
                have e7 : (k : Int) % 7 = 3 := by omega
                go_wp2_with fail
                refine (bz_bytes w w2 bw _ _ X _ P1 w6 HS6.out HW.out HW2.out (by omega) (by omega)).mono ?_
                rintro e w7 ⟨rfl, hbs7⟩
                have HS7 := hidM hbs7
                have HSZ7 : Hid (bw + 1 ≤ w7.heap.size) := HS7.out.wat.lt
                have HPL1 : Hid (P1.length ≤ 2 * k + 1) := by have := HPP.out; unfold Hid; omega
                have HLD7 := hidM (HLD.out.1.byt HLD.out.2)
                clear hbs7
                go_wp2_with (first
                  | (at_builtin; refine wpList_append_own _ rfl _ _ 22 rfl (bw + 1) 3 i0 (.int .i64 0) 1 8 Try.underlying22 hi hz0 hz1 hz2 rfl (by decide) _ _ _ rfl (World.ownsRow.alloc HS7.out.own.1 _) ⟨w7.heap.size, 0, none⟩ 1 1 [.int .i64 (-1)] ?c0 rfl ?c1 ?c2 ?c3 ?c4 ?c5 ?_))
                case c0 => rfl
                case c1 => exact new_cell w7 _
                case c2 => intro u hu; simp at hu; subst hu; rfl
                case c3 => have := HPL1.out; unfold maxLen; simp; omega
                case c4 => have := HPL1.out; simp; omega
                case c5 => have := HSZ7.out; simp; omega
                intro v8 w8 hown hgr _
                have HS8 := hidM (HS7.out.push (s := -1) HW.out HW2.out hgr hown)
                clear hown hgr HS7
                go_wp2
                go_roundw
                case rel => exact ⟨k + 1, P1 ++ [-1], _, _, by omega, by omega, by go_num, by have := HPP.out; simp; omega, by unfold al; omega, HLD7.out.2, HLD7.out.1, HS8.out⟩
                case measure => simp [intOf]; omega
              · obtain ⟨r7, hr7⟩ : ∃ r7, r7 = k % 7 := ⟨_, rfl⟩
                have t7 : (k : Int).tmod 7 = (r7 : Int) := by rw [Int.tmod_eq_emod_of_nonneg (by omega)]; omega
                have e7 : (k : Int) % 7 = (r7 : Int) := by omega
                have n7 : ¬ (r7 : Int) = 3 := by omega
                have n7' : ((r7 : Int) == 3) = false := by simpa using n7
                clear hr7 h7
                go_wp2
                go_roundw
                case rel => exact ⟨k + 1, P1, _, _, by omega, by omega, by go_num, by have := HPP.out; omega, by omega, HLD.out.2, HLD.out.1, HS6.out⟩
                case measure => simp [intOf]; omega
            · have hn00 : n = 0 := by omega
              subst hn00
              go_wp2
              go_roundw
              case rel => exact ⟨k + 1, P, N, T, by omega, by omega, by go_num, by omega, by omega, HNT.out, HG.out, HS4.out⟩
              case measure => simp [intOf]; omega
          · go_wp2_with fail
            refine (code_out b c ln m wr HTW.out (by omega)).mono ?_
            rintro e w4 ⟨rfl, rfl⟩
            clear hin HBN HTW
            go_wp2
            go_roundw
            case rel => exact ⟨k + 1, P, N, T, by omega, by omega, by go_num, by omega, by omega, HNT.out, HG.out, HS.out⟩
            case measure => simp [intOf]; omega
        · have HPL : Hid (P.length ≤ 120) := by unfold Hid; omega
          have HTT : Hid (T ≤ 12000) := by unfold Hid; omega
          obtain ⟨g, cc, cur, rfl, hgb, hgc⟩ := ownZ_obj HS.out.own
          have HGB := hidM hgb
          have HGC := hidM hgc
          have HCELL : Hid (∀ w' : World, w'.heap[g]? = some (.cells cur 3 (0, 0)) → ∀ j (hj : j < P.length), w'.cell? ⟨g, 0 + j, none⟩ = some (.int .i64 P[j])) := fun w' hw' j hj => ownZ_cell HS.out.own hgc hw' j hj
          clear hgb hgc
          obtain hq | ⟨hq, hq'⟩ : ¬ k < len2 ∨ (k < len2 ∧ ¬ k < 60) := by omega
          all_goals
            go_wp2_with fail
            refine (wtext_at bw N T wr HS.out.wat (by have := HTT.out; omega)).mono ?_
            rintro e w3 ⟨⟨S, rfl, hle, hsz⟩, hb3⟩
            have HLE := hidM hle
            have HSZ := hidM hsz
            have HB3 := hidM hb3
            clear hle hsz hb3
            go_wp2_with fail
            refine (newR_any S w3 (by have := HSZ.out; have := HTT.out; omega)).mono ?_
            rintro e w4 ⟨rfl, hr4, hb4⟩
            have HR4 := hidM hr4
            have HGLT : Hid (g < w3.heap.size) := Nat.lt_of_lt_of_le (Array.getElem?_eq_some_iff.1 HGC.out).1 HB3.out.size
            have HG4 : Hid (w4.heap[g]? = some (.cells cur 3 (0, 0))) := by
              unfold Hid
              rw [hb4.block g HGLT.out, HB3.out.block g (Array.getElem?_eq_some_iff.1 HGC.out).1]
              exact HGC.out
            have HB14 : Hid (Below w.heap.size w w4) := (HS.out.b1.trans (HB3.out.mono HS.out.b1.size)).trans (hb4.mono (Nat.le_trans HS.out.b1.size HB3.out.size))
            have HB24 : Hid (Below w2.heap.size w2 w4) := (HS.out.b2.trans (HB3.out.mono HS.out.b2.size)).trans (hb4.mono (Nat.le_trans HS.out.b2.size HB3.out.size))
            have HRB1 : Hid (w.heap.size ≤ w3.heap.size) := Nat.le_trans HS.out.b1.size HB3.out.size
            have HRB2 : Hid (w2.heap.size ≤ w3.heap.size) := Nat.le_trans HS.out.b2.size HB3.out.size
            clear hr4 hb4
            generalize w3.heap.size = rb at *
            go_wp2
            go_loopw [19, 20, 21, 22, 23, 108] (fun _ _ _ _ _ i wx => ∃ j t : Nat, j ≤ P.length ∧ i = .int .i64 j ∧ Laid ln m X N T t (P.drop j) ∧ RBox wx rb S t ∧ wx.heap[g]? = some (.cells cur 3 (0, 0)) ∧ Below w.heap.size w wx ∧ Below w2.heap.size w2 wx) (fun _ _ _ _ _ i _ => P.length - (intOf i).toNat)
            case atStart => exact ⟨0, 0, Nat.zero_le _, rfl, HG.out, HR4.out, HG4.out, HB14.out, HB24.out⟩
            case round =>
              obtain ⟨j, t, hj, rfl, hld, hr, hg, hb1, hb2⟩ := hrel
              have HR := hidM hr
              have HGX := hidM hg
              have HBX1 := hidM hb1
              have HBX2 := hidM hb2
              have HTU := hidM hld.upto
              clear hr hg hb1 hb2
              by_cases hjl : j < P.length
              · have hc := HCELL.out _ HGX.out j hjl
                rw [List.drop_eq_getElem_cons hjl] at hld
                rcases hld with ⟨x, hx, hxm, hx0, hxN, hld⟩ | ⟨hx, hxN, hld⟩
                · rw [hx] at hc
                  have hc0 := hc
                  rw [Nat.zero_add] at hc0
                  have HLD := hidM hld
                  have HXN := hidM hxN
                  have HX0 := hidM hx0
                  obtain ⟨l, hl⟩ : ∃ l, t + l = 8 * S.size := ⟨8 * S.size - t, by have := HTU.out; have := HSZ.out; omega⟩
                  have HL := hidM hl
                  clear hl hld hxN hx hx0
                  go_wp2_with fail
                  refine (read_any w2 b rb ln m S t l _ HT.out HBX2.out HRB2.out HR.out (by have := HSZ.out; have := HTT.out; omega) HL.out h320 H15.out HKR.out).mono ?_
                  rintro e w5 ⟨⟨d, hp, hr5⟩, ho⟩
                  obtain ⟨rfl, rfl⟩ := read_found ln m _ l x e d H15.out hxm HX0.out (by have := HLD.out.upto; have := HSZ.out; have := HL.out; omega) (by rw [HLE.out]; exact rv_found ln m _ x H15.out HKR.out hxm HXN.out) hp
                  have HR5 := hidM hr5
                  have HG5 : Hid (w5.heap[g]? = some (.cells cur 3 (0, 0))) := (ho.block g (by have := HGLT.out; omega)).trans HGX.out
                  have HB51 : Hid (Below w.heap.size w w5) := HBX1.out.trans (ho.below HRB1.out)
                  have HB52 : Hid (Below w2.heap.size w2 w5) := HBX2.out.trans (ho.below HRB2.out)
                  clear hp hr5 ho
                  go_wp2
                  go_roundw
                  case rel => exact ⟨j + 1, _, by omega, by go_num, HLD.out, HR5.out, HG5.out, HB51.out, HB52.out⟩
                  case measure => simp [intOf]; omega
                · rw [hx] at hc
                  have hc0 := hc
                  rw [Nat.zero_add] at hc0
                  have HLD := hidM hld
                  have HXN := hidM hxN
                  obtain ⟨u, hu⟩ : ∃ u, u = (t + 7) / 8 := ⟨_, rfl⟩
                  have HU := hidM hu
                  have HAL : Hid (al t = u * 8) := by unfold Hid al; rw [hu]
                  have hsum := hld.upto
                  obtain ⟨q, hq9⟩ : ∃ q, u + q = S.size := ⟨S.size - u, by rw [HAL.out] at hsum; have := HSZ.out; omega⟩
                  have HQ := hidM hq9
                  have HXQ : Hid (X.size ≤ q) := by rw [HAL.out] at hsum; have := HSZ.out; unfold Hid; omega
                  clear hld hxN hx hu hq9 hsum
                  go_wp2_with fail
                  refine (bytes_yes rb S t u q X.size _ HR.out (by have := HSZ.out; have := HTT.out; omega) (by have := HTU.out; have := HSZ.out; omega) HU.out HQ.out HXQ.out).mono ?_
                  rintro e w5 ⟨rfl, hr5, ho⟩
                  rw [extract_is S X N u HLE.out (by have := HQ.out; have := HXQ.out; omega) (by rw [← HAL.out]; exact HXN.out)]
                  have HR5 : Hid (RBox w5 rb S (al t + 8 * X.size)) := by unfold Hid; rw [HAL.out]; exact hr5
                  have HG5 : Hid (w5.heap[g]? = some (.cells cur 3 (0, 0))) := (ho.block g (by have := HGLT.out; omega)).trans HGX.out
                  have HB51 : Hid (Below w.heap.size w w5) := HBX1.out.trans (ho.below HRB1.out)
                  have HB52 : Hid (Below w2.heap.size w2 w5) := HBX2.out.trans (ho.below HRB2.out)
                  clear hr5 ho
                  go_wp2
                  go_roundw
                  case rel => exact ⟨j + 1, _, by omega, by go_num, HLD.out, HR5.out, HG5.out, HB51.out, HB52.out⟩
                  case measure => simp [intOf]; omega
              · rw [List.drop_eq_nil_of_le (by omega)] at hld
                have htT : t = T := hld
                obtain ⟨l, hl⟩ : ∃ l, t + l = 8 * S.size := ⟨8 * S.size - t, by have := HTU.out; have := HSZ.out; omega⟩
                have hl8 : l < 8 := by have := HSZ.out; omega
                have HL := hidM hl
                clear hl hld htT
                go_wp2_with fail
                refine (left_any rb S t l _ HR.out (by have := HSZ.out; have := HTT.out; omega) HL.out).mono ?_
                rintro e w6 ⟨rfl, m6, rfl⟩
                go_wp2
                go_ret
                exact ⟨by go_num, HBX1.out.trans (((Only.refl rb _).drewN m6).below HRB1.out)⟩
end Go.Proofs.Ytpidofgmbjkbiaa
