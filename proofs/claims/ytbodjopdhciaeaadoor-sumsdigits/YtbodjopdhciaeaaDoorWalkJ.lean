/-
  Walks: the document's Base64.
-/
import Derived.Test.YtbodjopdhciaeaaDoorRB64
namespace Go.Proofs.YtbodjopdhciaeaaDoor
open Go.RowKit

def sliceLen : Value → Nat | .slice _ l _ => l | _ => 0

theorem app_dataJ (a x : ByteArray) : (a ++ x).data.toList = a.data.toList ++ x.data.toList := by simp
theorem bits_take (l : List UInt8) (X r : Nat) (h : X + r < l.length) : numBits ((l.drop X).take (r + 1)) = 2 * numBits ((l.drop X).take r) + l[X + r].toNat := by
  rw [List.take_succ_eq_append_getElem (by simp; omega), numBits_snoc, List.getElem_drop]
theorem b64_step (l : List UInt8) (h : 0 < l.length) : b64 l = g64 (l.take 3) 4 ++ b64 (l.drop 3) := by
  by_cases h3 : l.length ≥ 3
  · exact b64_three l h3
  · rw [b64_short l (by omega) h, List.take_of_length_le (by omega), List.drop_of_length_le (by omega), b64_nil, List.append_nil]
theorem and1u8 (a : Nat) (ha : a < 256) : bits .and .u8 (a : Int) 1 = ((a % 2 : Nat) : Int) := by
  have := u8_and_nat a 1 ha (by omega)
  rw [nat_mask1] at this
  exact this
theorem bit_pick (c : UInt8) (q : Nat) : bits .and .u8 ((c.toNat : Int) / 2 ^ (7 - q)) 1 = ((bitAt c q).toNat : Int) := by
  have hc := byte_lt c
  have e : ((c.toNat : Int) / 2 ^ (7 - q)) = ((c.toNat / 2 ^ (7 - q) : Nat) : Int) := by simp
  rw [e, and1u8 _ (Nat.lt_of_le_of_lt (Nat.div_le_self _ _) hc), bitAt_nat]

set_option maxRecDepth 100000 in
set_option maxHeartbeats 3200000 in
theorem rbase64_any (s : ByteArray) (w : World) (hs : s.size ≤ 1048576) :
    Calls Tryd.prog 23 #[.string s] w fun e w' => e = .returned (.string ⟨(b64 s.data.toList).toArray⟩) ∧ Below w.heap.size w w' := by
  obtain ⟨i0, hi, hz0, hz1, hz2⟩ := info_parts Tryd.info5
  go_enter Tryd.func23, Tryd.ntmps23
  go_wp2
  go_loopw [3, 4] (fun sv i wr => ∃ (K : Nat) (S : ByteArray), K ≤ s.size + 2 ∧ i = .int .i64 (K : Int) ∧ sv = .string S ∧ S.size ≤ 2 * K ∧ b64 s.data.toList = S.data.toList ++ b64 (s.data.toList.drop K) ∧ Below w.heap.size w wr) (fun _ i _ => s.size + 2 - (intOf i).toNat)
  case atStart => exact ⟨0, ⟨#[]⟩, by omega, rfl, rfl, Nat.le_refl _, rfl, Below.refl _ _⟩
  case round =>
    obtain ⟨K, S, hk, rfl, rfl, hS, hE, hbr⟩ := hrel
    have HE := hidM hE
    have HB := hidM hbr
    have hB := hbr.size
    clear hE hbr
    by_cases hlt : K < s.size
    · have hdK : decide ((K : Int) < (s.size : Int)) = true := by simp; omega
      obtain ⟨g, hg⟩ : ∃ g, g = (s.data.toList.drop K).take 3 := ⟨_, rfl⟩
      obtain ⟨n, hn⟩ : ∃ n, n = g.length := ⟨_, rfl⟩
      have hn2 : (n = 3 ∧ K + 3 ≤ s.size) ∨ (n < 3 ∧ K + n = s.size) := by
        have : g.length = min 3 (s.size - K) := by rw [hg]; simp
        omega
      have n1 : 1 ≤ n := by omega
      have n3 : n ≤ 3 := by omega
      have ns : K + n ≤ s.size := by omega
      have HN2 := hidM hn2
      have HG := hidM hg
      have HN := hidM hn
      have HEE : Hid (b64 s.data.toList = S.data.toList ++ (g64 g 4 ++ b64 (s.data.toList.drop (K + 3)))) := by
        unfold Hid
        rw [HE.out, b64_step _ (by simp; omega), ← hg, List.drop_drop]
      clear hn hg hn2
      have hb0 : Below w.heap.size w (wr.alloc (.cells #[] 5)) := HB.out.alloc hB _
      have HO0 : Hid (OwnB (wr.alloc (.cells #[] 5)) w.heap.size (.slice (some ⟨wr.heap.size, 0, none⟩) 0 0) []) := World.ownsRow_lit wr #[] 0 hB (Nat.zero_le _) rfl
      have HB0 := hidM hb0
      clear hb0
      go_wp2
      go_loopw [5, 6, 7] (fun v j _ w2 => ∃ (m J : Nat) (Q : List UInt8), m ≤ n ∧ J = K + m ∧ j = .int .i64 (J : Int) ∧ Q = bitsL (g.take m) ∧ OwnB w2 w.heap.size v Q ∧ Below w.heap.size w w2) (fun _ j _ _ => K + n - (intOf j).toNat)
      case atStart => exact ⟨0, K, [], by omega, by omega, rfl, rfl, HO0.out, HB0.out⟩
      case round =>
        obtain ⟨m, J, Q, hm, hJ, rfl, hQ, hownq, hbq⟩ := hrel
        clear HO0 HB0
        have HQ := hidM hQ
        have HJ := hidM hJ
        have j1 : J ≤ K + m := by omega
        have j2 : K + m ≤ J := by omega
        clear hQ hJ
        by_cases hmn : m < n
        · have t1 : decide ((J : Int) < (K : Int) + 3) = true := by simp; omega
          have t2 : decide ((J : Int) < (s.size : Int)) = true := by simp; omega
          have k1 : J < s.size := by omega
          obtain ⟨c, hc⟩ : ∃ c, c = s[J] := ⟨_, rfl⟩
          have rc : (s[J].toNat : Int) = (c.toNat : Int) := by rw [hc]
          have HC : Hid (bitsL (g.take (m + 1)) = Q ++ bits8 c 8) := by
            unfold Hid
            have e : g.take (m + 1) = g.take m ++ [c] := by
              rw [List.take_succ_eq_append_getElem (by rw [← HN.out]; exact hmn)]
              congr 2
              rw [hc]
              simp only [HG.out]
              rw [List.getElem_take, List.getElem_drop]
              simp only [← HJ.out]
              rfl
            rw [e, bitsL_snoc, ← HQ.out]
          have HLQ : Hid (Q.length = 8 * m) := by
            unfold Hid; rw [HQ.out, bitsL_len, List.length_take, ← HN.out]; omega
          clear hc
          go_wp2
          go_loopw [5, 7] (fun v j w2 => ∃ (q : Nat) (R : List UInt8), q ≤ 8 ∧ j = .int .i64 (7 - (q : Int)) ∧ R = bits8 c q ∧ OwnB w2 w.heap.size v (Q ++ R) ∧ Below w.heap.size w w2) (fun _ j _ => (intOf j + 1).toNat)
          case atStart => exact ⟨0, [], by omega, rfl, rfl, by simpa using hownq, hbq⟩
          case round =>
            obtain ⟨q, R, hq, rfl, hR, hown, hbel⟩ := hrel
            clear hownq hbq
            have HR := hidM hR
            have hBB := hbel.size
            clear hR
            by_cases hq8 : q < 8
            · have hbp := bit_pick c q
              have HRL : Hid ((Q ++ R).length = 8 * m + q) := by unfold Hid; rw [List.length_append, HLQ.out, HR.out, bits8_len]
              go_wp2_with (first
                | (at_builtin; refine wpList_append_own _ rfl _ _ 44 rfl w.heap.size 5 i0 (.int .u8 0) 1 1 Tryd.underlying44 hi hz0 hz1 hz2 rfl (by decide) _ _ _ rfl (hown.alloc _) ⟨wr.heap.size, 0, none⟩ 1 1 [.int .u8 ((bitAt c q).toNat : Int)] ?d0 rfl ?d1 ?d2 ?d3 ?d4 ?d5 ?_))
              case d0 => rfl
              case d1 => exact cell_new_one wr _
              case d2 => intro u hu; simp at hu; subst hu; rfl
              case d3 => have := HRL.out; unfold maxLen; omega
              case d4 => have := HRL.out; omega
              case d5 => simp; omega
              intro v' w3 hown' hgrow _
              have HO : Hid (OwnB w3 w.heap.size v' (Q ++ (R ++ [bitAt c q]))) := by
                unfold Hid; rw [← List.append_assoc]; exact own_push (by rw [List.length_append]; exact hown')
              have HB3 := hidM (below_push hown hbel hBB hgrow)
              clear hown' hgrow hown hbel hBB hbp
              go_wp2
              go_roundw
              case rel => exact ⟨q + 1, R ++ [bitAt c q], by omega, val_int (by omega), by rw [bits8_succ, ← HR.out], HO.out, HB3.out⟩
              case measure => simp [intOf]; omega
            · have q8 : q = 8 := by omega
              subst q8
              have HO : Hid (OwnB wr w.heap.size u5 (Q ++ R)) := hown
              have HB3 := hidM hbel
              clear hown hbel rc
              go_wp2
              go_roundw
              case rel => exact ⟨m + 1, J + 1, Q ++ R, by omega, by omega, by go_num, by rw [HC.out, HR.out], HO.out, HB3.out⟩
              case measure => simp [intOf]; omega
        · have mn : m = n := by omega
          subst mn
          have HQG : Hid (Q = bitsL g) := by unfold Hid; rw [HQ.out, List.take_of_length_le (by rw [← HN.out]; exact Nat.le_refl _)]
          have HQL : Hid (Q.length = 8 * m) := by unfold Hid; rw [HQG.out, bitsL_len, ← HN.out]
          have hexit : (decide ((J : Int) < (K : Int) + 3) = false) ∨ (decide ((J : Int) < (K : Int) + 3) = true ∧ ¬ J < s.size) := by
            rcases HN2.out with ⟨h1, h2⟩ | ⟨h1, h2⟩
            · left; simp; omega
            · right; exact ⟨by simp; omega, by omega⟩
          rcases hexit with he | ⟨he1, he2⟩
          all_goals
            go_wp2
            go_loopw [5] (fun v w2 => ∃ (p : Nat), 8 * m + p ≤ 6 * (m + 1) ∧ OwnB w2 w.heap.size v (Q ++ List.replicate p 0) ∧ Below w.heap.size w w2) (fun v _ => 6 * (m + 1) - sliceLen v)
            case atStart => exact ⟨0, by omega, by simpa using hownq, hbq⟩
            case round =>
              obtain ⟨p, hp, hown, hbel⟩ := hrel
              clear hownq hbq
              obtain ⟨L, hL⟩ : ∃ L, L = 8 * m + p := ⟨_, rfl⟩
              have HPL : Hid ((Q ++ List.replicate p (0 : UInt8)).length = L) := by unfold Hid; rw [List.length_append, HQL.out, List.length_replicate, hL]
              obtain ⟨gb, cap, hv, hncap, hcapm⟩ : ∃ g cap, u5 = .slice (some ⟨g, 0, none⟩) L cap ∧ L ≤ cap ∧ cap ≤ maxLen := by
                have h2 := hown.2
                rw [HPL.out] at h2
                rcases h2 with ⟨_, h0⟩ | ⟨g, cap, cur, h, _, _, h3, h4, _⟩
                · omega
                · exact ⟨g, cap, h, h3, h4⟩
              subst hv
              have hBB := hbel.size
              have HLL := hidM hL
              have L1 : L ≤ 8 * m + p := by omega
              have L2 : 8 * m + p ≤ L := by omega
              clear hL
              by_cases h6 : L % 6 = 0
              · have L6 : L = 6 * (m + 1) := by omega
                have h6b : ((L : Int) % 6 != 0) = false := by simp; omega
                have HPB : Hid (Q ++ List.replicate p 0 = padB g) := by
                  unfold Hid padB; rw [HQG.out, ← HN.out]; congr 2; unfold fullB; omega
                have hcell : ∀ x (hx : x < (padB g).length), wr.cell? ⟨gb, x, none⟩ = some (.int .u8 ((padB g)[x].toNat : Int)) := by
                  intro x hx
                  have h2 : wr.ownsRow w.heap.size 5 1 (.slice (some ⟨gb, 0, none⟩) L cap) L (bytesV (padB g)) := by
                    have := hown; unfold OwnB at this; rw [HPL.out, HPB.out] at this; exact this
                  have hx2 : x < L * 1 := by rw [← HPB.out, HPL.out] at hx; omega
                  rw [h2.cellAt x hx2, bytesV_at _ _ hx]
                have HCELL := hidM hcell
                have HPBL : Hid ((padB g).length = L) := by unfold Hid; rw [← HPB.out]; exact HPL.out
                have HL6 := hidM L6
                have l61 : L ≤ 6 * (m + 1) := by omega
                have l62 : 6 * (m + 1) ≤ L := by omega
                have HBEL := hidM hbel
                clear hcell hown hbel L6 L1 L2 h6
                go_wp2
                go_loop [3, 8, 9, 11] (fun sv j _ _ => ∃ (q X : Nat) (S2 : ByteArray), q ≤ 4 ∧ X = 6 * q ∧ j = .int .i64 (X : Int) ∧ sv = .string S2 ∧ S2.size ≤ S.size + q ∧ S2.data.toList = S.data.toList ++ g64 g q) (fun _ j _ _ => 24 - (intOf j).toNat)
                case atStart => exact ⟨0, 0, S, by omega, rfl, rfl, rfl, Nat.le_refl _, by simp [g64]⟩
                case round =>
                  obtain ⟨q, X, S2, hq, hX, rfl, rfl, hS2, hE2⟩ := hrel
                  have HX := hidM hX
                  have HE2 := hidM hE2
                  have x1 : X ≤ 6 * q := by omega
                  have x2 : 6 * q ≤ X := by omega
                  clear hX hE2
                  by_cases hq4 : q < 4
                  · have d24 : decide ((X : Int) < 24) = true := by simp; omega
                    by_cases hqm : m < q
                    · have dge : (L : Int) ≤ (X : Int) := by omega
                      have HD : Hid (g64 g (q + 1) = g64 g q ++ [61]) := by
                        unfold Hid; rw [g64_succ]; unfold gDigit; rw [if_pos (by rw [← HN.out]; exact hqm)]
                      go_wp2
                      go_round
                      case rel => exact ⟨q + 1, X + 6, S2 ++ ⟨#[61]⟩, by omega, by omega, by go_num, rfl, by rw [ByteArray.size_append]; show S2.size + 1 ≤ _; omega, by rw [app_dataJ, HE2.out, HD.out, List.append_assoc]⟩
                      case measure => simp [intOf]; omega
                    · have dge : ¬ (L : Int) ≤ (X : Int) := by omega
                      have xl : X + 6 ≤ L := by omega
                      have xc : X + 6 ≤ cap := by omega
                      have HZ : Hid (numBits (((padB g).drop X).take 6) = gNum g / 2 ^ (18 - 6 * q) % 64) := by
                        unfold Hid
                        rw [HX.out]
                        exact six1 g (by rw [← HN.out]; exact n1) (by rw [← HN.out]; exact n3) q (by rw [← HN.out]; unfold fullB; omega)
                      have HD : Hid (g64 g (q + 1) = g64 g q ++ [alphaN (gNum g / 2 ^ (18 - 6 * q) % 64)]) := by
                        unfold Hid; rw [g64_succ]; unfold gDigit; rw [if_neg (by rw [← HN.out]; exact hqm)]
                      have HZ64 : Hid (gNum g / 2 ^ (18 - 6 * q) % 64 < 64) := Nat.mod_lt _ (by decide)
                      generalize gNum g / 2 ^ (18 - 6 * q) % 64 = zz at *
                      go_wp2
                      go_loop [9, 11, 68] (fun nv _ iv => ∃ (r z : Nat), r ≤ 6 ∧ iv = .int .i64 (r : Int) ∧ nv = .int .i64 (z : Int) ∧ z + 255 ≤ 255 * 2 ^ r ∧ z = numBits (((padB g).drop X).take r)) (fun _ _ iv => 6 - (intOf iv).toNat)
                      case atStart => exact ⟨0, 0, by omega, rfl, rfl, by omega, rfl⟩
                      case round =>
                        obtain ⟨r, z, hr, rfl, rfl, hz, hzz⟩ := hrel
                        have HZZ := hidM hzz
                        clear hzz
                        have p6 : 2 ^ r ≤ 64 := Nat.pow_le_pow_right (n := 2) (by decide) hr
                        have ps : 2 ^ (r + 1) = 2 * 2 ^ r := by rw [Nat.pow_succ, Nat.mul_comm]
                        by_cases hr6 : r < 6
                        · have hxr : X + r < (padB g).length := by rw [HPBL.out]; omega
                          have hc := HCELL.out (X + r) hxr
                          have hbb := byte_lt (padB g)[X + r]
                          have HNX : Hid (2 * z + (padB g)[X + r].toNat = numBits (((padB g).drop X).take (r + 1))) := by
                            unfold Hid; rw [bits_take _ _ _ hxr, ← HZZ.out]
                          have HPS := hidM ps
                          have HHZ := hidM hz
                          have hz2 : z ≤ 16320 := by omega
                          clear ps hz p6
                          generalize (padB g)[X + r].toNat = b at *
                          clear hxr
                          go_wp2
                          go_round
                          case rel => exact ⟨r + 1, 2 * z + b, by omega, by go_num, val_int (by omega), by have := HPS.out; have := HHZ.out; omega, HNX.out⟩
                          case measure => simp [intOf]; omega
                        · have r6 : r = 6 := by omega
                          subst r6
                          have hz3 : z = zz := by rw [HZZ.out, HZ.out]
                          subst hz3
                          have z64 : z < 64 := HZ64.out
                          have hcut := alpha_cut z z64
                          unfold alphaS alphaL at hcut
                          clear hz ps p6
                          go_wp2
                          go_round
                          case rel => exact ⟨q + 1, X + 6, S2 ++ ⟨#[alphaN z]⟩, by omega, by omega, by go_num, rfl, by rw [ByteArray.size_append]; show S2.size + 1 ≤ _; omega, by rw [app_dataJ, HE2.out, HD.out, List.append_assoc]⟩
                          case measure => simp [intOf]; omega
                  · have q4 : q = 4 := by omega
                    subst q4
                    have d24 : ¬ (X : Int) < 24 := by omega
                    go_wp2
                    go_roundw
                    case rel => exact ⟨K + 3, S2, by omega, by go_num, rfl, by omega, by rw [HEE.out, HE2.out, List.append_assoc], HBEL.out⟩
                    case measure => simp [intOf]; omega
              · have h6b : ((L : Int) % 6 != 0) = true := by simp; omega
                go_wp2_with (first
                  | (at_builtin; refine wpList_append_own _ rfl (.tmp 49) (.tmp 50) 44 rfl w.heap.size 5 i0 (.int .u8 0) 1 1 Tryd.underlying44 hi hz0 hz1 hz2 rfl (by decide) _ _ _ rfl (hown.alloc _) ⟨wr.heap.size, 0, none⟩ 1 1 [.int .u8 ((0 : UInt8).toNat : Int)] ?d0 rfl ?d1 ?d2 ?d3 ?d4 ?d5 ?_))
                case d0 => rfl
                case d1 => exact cell_new_one wr _
                case d2 => intro u hu; simp at hu; subst hu; rfl
                case d3 => have := HPL.out; unfold maxLen; omega
                case d4 => have := HPL.out; omega
                case d5 => simp; omega
                intro v' w3 hown' hgrow _
                have HO : Hid (OwnB w3 w.heap.size v' (Q ++ List.replicate (p + 1) 0)) := by
                  unfold Hid; rw [List.replicate_succ', ← List.append_assoc]
                  exact own_push (by rw [HQL.out] at hown'; rw [HPL.out, HLL.out]; exact hown')
                have HB3 := hidM (below_push hown hbel hBB hgrow)
                have HSL : Hid (sliceLen v' = L + 1) := by
                  have h2 := HO.out.2
                  rw [List.length_append, HQL.out, List.length_replicate] at h2
                  rcases h2 with ⟨_, h0⟩ | ⟨g, cap, cur, h, _⟩
                  · omega
                  · rw [h]; show 8 * m + (p + 1) = L + 1; omega
                clear hown' hgrow hown hbel hBB h6b
                go_wp2
                go_roundw
                case rel => exact ⟨p + 1, by omega, HO.out, HB3.out⟩
                case measure => rw [HSL.out]; show _ < 6 * (m + 1) - L; omega
    · have HF : Hid (b64 s.data.toList = S.data.toList) := by
        unfold Hid; rw [HE.out, List.drop_of_length_le (by simp; omega), b64_nil, List.append_nil]
      go_wp2
      go_ret
      exact ⟨by rw [HF.out]; rfl, HB.out⟩
end Go.Proofs.YtbodjopdhciaeaaDoor
