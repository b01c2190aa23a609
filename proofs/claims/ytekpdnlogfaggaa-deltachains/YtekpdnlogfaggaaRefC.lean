/-
  The document's Apply.
-/
import Derived.Test.YtekpdnlogfaggaaRefB
namespace Go.Proofs.Ytekpdnlogfaggaa
open Go.RowKit

theorem Try.info3 : (Try.prog.info? 3).map (fun i => (i.zero, i.size, i.bytes)) = some (some (.int .i64 0), 1, 8) := by kernel_rfl
def intsN (xs : List Nat) : List Value := xs.map fun (x : Nat) => .int .i64 (x : Int)
theorem intsN_len (xs : List Nat) : (intsN xs).length = xs.length := by simp [intsN]
theorem intsN_app (l m : List Nat) : intsN (l ++ m) = intsN l ++ intsN m := by simp [intsN]
theorem intsN_at (l : List Nat) (j : Nat) (h : j < l.length) : (intsN l)[j]? = some (.int .i64 (l[j] : Nat)) := by simp [intsN, h]
/-- The value v owns just these numbers. -/
def OwnN (w : World) (B g c : Nat) (xs : List Nat) : Prop := w.ownsRow B 3 1 (.slice (some ⟨g, 0, none⟩) xs.length c) xs.length (intsN xs)
theorem ownN_empty (w : World) (B : Nat) (h : B ≤ w.heap.size) : OwnN (w.alloc (.cells #[] 3)) B w.heap.size 0 [] := World.ownsRow_lit w #[] 0 h (Nat.zero_le _) rfl
theorem ownN_push {w1 : World} {B : Nat} {v' : Value} {xs : List Nat} {c : Nat} (h : w1.ownsRow B 3 1 v' (xs.length + 1) (intsN xs ++ [.int .i64 (c : Int)])) : ∃ g k, v' = .slice (some ⟨g, 0, none⟩) (xs ++ [c]).length k ∧ OwnN w1 B g k (xs ++ [c]) := by
  have h' := h
  rcases h.2 with ⟨_, hn⟩ | ⟨g, cap, cur, hv, hr⟩
  · omega
  · refine ⟨g, cap, by rw [hv, List.length_append]; rfl, ?_⟩
    unfold OwnN
    rw [intsN_app, List.length_append]
    rw [hv] at h'
    exact h'
theorem OwnN.at {w : World} {B g c : Nat} {xs : List Nat} (h : OwnN w B g c xs) (j : Nat) (hj : j < xs.length) : w.cell? ⟨g, j, none⟩ = some (.int .i64 (xs[j] : Nat)) := by
  have := World.ownsRow.cells (g := g) h rfl j _ (intsN_at xs j hj)
  rwa [Addr.add_lit, Nat.zero_add] at this
theorem OwnN.block {w : World} {B g c : Nat} {xs : List Nat} (h : OwnN w B g c xs) : B ≤ g ∧ g < w.heap.size := World.ownsRow.lt h g rfl
theorem OwnN.last {w : World} {B g c : Nat} {xs : List Nat} {a b : Nat} (h : OwnN w B g c (xs ++ [a])) (i : Nat) (hi : xs.length = i) :
    w.cell? ⟨g, i, none⟩ = some (.int .i64 (a : Int)) ∧ w.frozen? ⟨g, i, none⟩ = false ∧ OwnN (w.setCell ⟨g, i, none⟩ (.int .i64 (b : Int))) B g c (xs ++ [b]) := by
  subst hi
  have h0 := h.at xs.length (by simp)
  simp only [List.getElem_concat_length] at h0
  have hh := h
  unfold OwnN at hh
  rcases hh.2 with ⟨hv, _⟩ | ⟨g', cap, cur, hv, hb, hg, hnc, hcm, hcs, htake⟩
  · simp at hv
  · simp only [Value.slice.injEq, Option.some.injEq, Addr.mk.injEq, and_true, true_and] at hv
    obtain ⟨rfl, rfl⟩ := hv
    refine ⟨h0, frozen_of_row w g _ _ 3 hg, ?_⟩
    refine ⟨by rw [intsN_len, Nat.mul_one], .inr ⟨g, c, _, rfl, hb, heap_setCell_same w g xs.length cur 3 _ hg, by simpa using hnc, hcm, by simpa using hcs, ?_⟩⟩
    rw [Array.toList_setIfInBounds, List.take_set, Nat.mul_one]
    rw [Nat.mul_one] at htake
    rw [show (xs ++ [b]).length = (xs ++ [a]).length by simp, htake, intsN_app, intsN_app]
    have : (intsN xs).length = xs.length := intsN_len xs
    rw [List.set_append_right _ _ (by omega), this, Nat.sub_self]
    rfl
theorem OwnN.below {w w' : World} {B g c : Nat} {xs : List Nat} (h : OwnN w B g c xs) (hb : Below w.heap.size w w') : OwnN w' B g c xs := by
  refine ⟨h.1, ?_⟩
  rcases h.2 with h0 | ⟨g, cap, cur, hv, hg, hc, hr⟩
  · exact .inl h0
  · exact .inr ⟨g, cap, cur, hv, hg, by rw [hb.block g ((Array.getElem?_eq_some_iff.1 hc).1)]; exact hc, hr⟩
theorem new_cell (w : World) (v : Value) : ∀ j u, [v][j]? = some u → (w.alloc (.cells #[v] 3)).cell? ((⟨w.heap.size, 0, none⟩ : Addr).add j) = some u := by
  intro j u hj
  match j, hj with
  | 0, hj => simp at hj; subst hj; simp [Addr.add]

set_option maxHeartbeats 4000000 in
set_option maxRecDepth 50000 in
theorem rapply_any (base s : ByteArray) (most : Int) (w : World) (hs : s.size ≤ 1000000) (hbs : base.size ≤ 1000000) :
    Calls Try.prog 10 #[.string base, .string s, .int .i64 most] w fun e w' => e = .returned (.tuple #[.string ⟨(apL base s most).1.toArray⟩, .int .i64 ((apL base s most).2 : Nat)]) ∧ Below w.heap.size w w' := by
  obtain ⟨i0, hi, hz0, hz1, hz2⟩ := info_parts Try.info3
  have hap : apL base s most = if (sizesL s).2.2.2 = 0 then
    (if (sizesL s).1 = base.size then
      (if most < ((sizesL s).2.1 : Int) then ([], 2) else flL base s (sizesL s).2.1 (s.size - (sizesL s).2.2.1) (sizesL s).2.2.1 [])
    else ([], 4))
  else ([], (sizesL s).2.2.2) := rfl
  have hbd := sizesL_bounds s
  have c1 := rsizes_any s w (by omega)
  obtain ⟨r, hr⟩ : ∃ r, sizesL s = r := ⟨_, rfl⟩
  rw [hr] at hap hbd c1
  clear hr
  obtain ⟨a, n, u, er⟩ := r
  obtain ⟨ba, bn, bu⟩ := hbd
  simp only at hap ba bn bu c1
  go_enter Try.func10, Try.ntmps10
  go_wp2_with fail
  refine c1.mono ?_
  rintro e w1 ⟨rfl, hw⟩
  rw [hw]
  clear hw c1
  by_cases her : er = 0
  · subst her
    by_cases ha : a = base.size
    · have ha' : (a : Int) = (base.size : Int) := by omega
      by_cases hm : most < (n : Int)
      · have HA2 := hidM (show apL base s most = ([], 2) by rw [hap, if_pos rfl, if_pos ha, if_pos hm])
        clear hap
        go_wp2
        go_ret2
        rw [HA2.out]
        exact ⟨rfl, Below.refl _ _⟩
      · have HA := hidM (show apL base s most = flL base s n (s.size - u) u [] by rw [hap, if_pos rfl, if_pos ha, if_neg hm])
        clear hap
        go_wp2
        go_loopw [10, 12] (fun p o wr => ∃ (y k : Nat) (O : ByteArray), y ≤ s.size ∧ s.size ≤ y + k ∧ O.size ≤ n ∧ p = .int .i64 (y : Int) ∧ o = .string O ∧ Below w.heap.size w wr ∧ apL base s most = flL base s n k y O.data.toList) (fun p _ _ => s.size - (intOf p).toNat)
        case atStart => exact ⟨u, s.size - u, ⟨#[]⟩, bu, by omega, Nat.zero_le _, rfl, rfl, Below.refl _ _, HA.out⟩
        case round =>
          obtain ⟨y, k, O, hy, hk, hO, rfl, rfl, hB, hE⟩ := hrel
          have HB := hidM hB
          have HE := hidM hE
          have HK := hidM hk
          clear hB hE hk HA
          by_cases hlt : y < s.size
          · have hlt' : (y : Int) < s.size := by omega
            obtain ⟨c, hc⟩ : ∃ c, s[y].toNat = c := ⟨_, rfl⟩
            have c256 : c < 256 := by rw [← hc]; exact s[y].toNat_lt
            have hc' : (s[y].toNat : Int) = (c : Int) := by omega
            have HC := hidM hc
            clear hc
            by_cases h0 : c = 0
            · subst h0
              have HF := hidM (HE.out.trans (flL_step hlt HK.out (inL_zero base s y hlt HC.out)))
              go_wp2
              go_ret2
              rw [HF.out]
              exact ⟨rfl, HB.out⟩
            have h0' : ¬ (c : Int) = 0 := by omega
            by_cases hl : c < 128
            · have hl' : (c : Int) < 128 := by omega
              obtain ⟨z, hz⟩ : ∃ z, y + 1 + c = z := ⟨_, rfl⟩
              have hz' : (y : Int) + 1 + c = (z : Int) := by omega
              by_cases hzs : z ≤ s.size
              · have hzs' : ¬ (s.size : Int) < z := by omega
                have hyz : y + 1 ≤ z := by omega
                have hyz' : y < z := by omega
                have HF0 := HE.out.trans (flL_step hlt HK.out (inL_put base s y c z hlt HC.out h0 hl hz hzs))
                rw [if_pos rfl] at HF0
                have hXs : (s.extract (y + 1) z).size ≤ 1000000 := by simp only [ByteArray.size_extract]; omega
                clear hz
                go_upto_region 38 with fail
                generalize s.extract (y + 1) z = X at *
                have hOl : O.data.toList.length = O.size := by simp
                rw [hOl] at HF0
                have HF := hidM HF0
                clear HF0 hOl hc'
                by_cases hx : n < O.size + X.size
                · have hx' : (n : Int) < (O.size : Int) + (X.size : Int) := by omega
                  have HF2 := hidM (HF.out.trans (if_pos hx))
                  clear HF
                  go_wp2
                  go_ret2
                  rw [HF2.out]
                  exact ⟨rfl, HB.out⟩
                · have hx' : ¬ (n : Int) < (O.size : Int) + (X.size : Int) := by omega
                  have HF2 := hidM (HF.out.trans (if_neg hx))
                  clear HF
                  go_wp2
                  refine ⟨⟨z, k - 1, O ++ X, hzs, by have := HK.out; omega, by rw [ByteArray.size_append]; omega, by go_num, rfl, HB.out, by rw [HF2.out, ByteArray.data_append, Array.toList_append]⟩, ?_⟩
                  simp [intOf]; omega
              · have hzs' : (s.size : Int) < z := by omega
                have HF := hidM (HE.out.trans (flL_step hlt HK.out (inL_short base s y c hlt HC.out h0 hl (by omega))))
                clear hz
                go_wp2
                go_ret2
                rw [HF.out]
                exact ⟨rfl, HB.out⟩
            · have hl' : ¬ (c : Int) < 128 := by omega
              go_wp2
              go_loopw [10, 13, 15, 16] (fun p cc x i wi => ∃ (j d t g q : Nat) (xs : List Nat), j ≤ 7 ∧ d = c / 2 ^ j ∧ d < 256 ∧ t ≤ s.size ∧ y + 1 ≤ t ∧ p = .int .i64 (t : Int) ∧ cc = .int .i64 (d : Int) ∧ x = .slice (some ⟨g, 0, none⟩) j q ∧ i = .int .i64 (j : Int) ∧ InR s c (y + 1) j xs t ∧ OwnN wi w.heap.size g q xs ∧ Below w.heap.size w wi) (fun _ _ _ i _ => 7 - (intOf i).toNat)
              case atStart =>
                exact ⟨0, c, y + 1, wr.heap.size, 0, [], by decide, by simp, c256, by omega, Nat.le_refl _, by go_num, rfl, rfl, rfl, inR_start s c (y + 1) (by omega), ownN_empty wr _ HB.out.size, HB.out.alloc HB.out.size _⟩
              case round =>
                obtain ⟨j, d, t, g, q, xs, hj, hd, d256, hts, hyt, rfl, rfl, rfl, rfl, hR, hOw, hBi⟩ := hrel
                have HR := hidM hR
                have HOW : Hid (wr.ownsRow w.heap.size 3 1 (.slice (some ⟨g, 0, none⟩) j q) j (intsN xs)) := by
                  have := hOw; unfold OwnN at this; rw [hR.1] at this; exact this
                have HOW2 := hidM hOw
                have HBI := hidM hBi
                have HD := hidM hd
                have HLEN := hidM hR.1
                clear hR hOw hBi hd
                by_cases hj7 : j < 7
                · have hj7' : (j : Int) < 7 := by omega
                  obtain ⟨d2, hd2⟩ : ∃ d2, d2 = d / 2 := ⟨_, rfl⟩
                  have hdv : (d : Int).tdiv 2 = (d2 : Int) := by rw [Int.tdiv_eq_ediv_of_nonneg (by omega)]; omega
                  have hdw : (d : Int) / 2 = (d2 : Int) := by omega
                  have d2256 : d2 < 256 := by omega
                  have HD2 := hidM (show d2 = c / 2 ^ (j + 1) by rw [hd2, HD.out, Nat.div_div_eq_div_mul, Nat.pow_succ])
                  have hbitd : c / 2 ^ j % 2 = d % 2 := by rw [HD.out]
                  by_cases hbit : d % 2 = 1
                  · have hb1 : (d : Int).tmod 2 = 1 := by rw [Int.tmod_eq_emod_of_nonneg (by omega)]; omega
                    have hb2 : (d : Int) % 2 = 1 := by omega
                    have HBIT := hidM (hbitd.trans hbit)
                    clear hbitd hbit hd2 HD
                    by_cases htl : t < s.size
                    · have htl' : ¬ (s.size : Int) ≤ t := by omega
                      obtain ⟨b, hb⟩ : ∃ b, s[t].toNat = b := ⟨_, rfl⟩
                      have b256 : b < 256 := by rw [← hb]; exact s[t].toNat_lt
                      have hb' : (s[t].toNat : Int) = (b : Int) := by omega
                      have HRP := hidM (inR_put HR.out hj7 HBIT.out htl hb)
                      clear hb HR HOW2
                      go_wp2_with (first
                        | (at_builtin; go_loud (refine wpList_append_own _ rfl _ _ 43 rfl w.heap.size 3 i0 (.int .i64 0) 1 8 Try.underlying43 hi hz0 hz1 hz2 rfl (by decide) _ _ _ rfl (World.ownsRow.alloc HOW.out _) ⟨wr.heap.size, 0, none⟩ 1 1 [.int .i64 (0 : Int)] ?c0 rfl ?c1 ?c2 ?c3 ?c4 ?c5 ?_)))
                      try (case c0 => rfl)
                      try (case c1 => exact new_cell wr _)
                      case c2 => first | rfl | (intro u hu; simp at hu; subst hu; rfl)
                      case c3 => unfold maxLen; first | omega | (simp; omega)
                      case c4 => first | omega | (simp; omega)
                      case c5 => have := HBI.out.size; first | omega | (simp; omega)
                      intro v' w6 hown hgr _
                      have hB6 := hidM ((HBI.out.alloc HBI.out.size _).grown hgr (by have := HBI.out.size; simp; omega) (fun q hq => (World.ownsRow.lt HOW.out q hq).1))
                      obtain ⟨g2, q2', hv', hO6⟩ := ownN_push (c := 0) (by rw [HLEN.out]; exact hown)
                      rw [List.length_append, HLEN.out] at hv'
                      simp only [List.length_cons, List.length_nil, Nat.zero_add] at hv'
                      subst hv'
                      have HO6 := hidM hO6
                      clear hown hgr hO6 HOW HBI
                      obtain ⟨k1, k2, k3⟩ := HO6.out.last (b := b) j HLEN.out
                      have K3 := hidM k3
                      have KG := hidM HO6.out.block.1
                      clear k3 HO6
                      go_wp2
                      refine ⟨⟨j + 1, d2, t + 1, g2, q2', xs ++ [b], by omega, HD2.out, d2256, by omega, by omega, by go_num, rfl, rfl, by go_num, HRP.out, K3.out, hB6.out.setCell (p := ⟨g2, j, none⟩) KG.out _⟩, ?_⟩
                      simp [intOf]; omega
                    · have htl' : (s.size : Int) ≤ t := by omega
                      have HF := hidM (HE.out.trans (flL_step hlt HK.out (inR_short (base := base) HR.out hj7 HBIT.out htl hlt HC.out hl)))
                      clear HR HOW2
                      go_wp2_with (first
                        | (at_builtin; go_loud (refine wpList_append_own _ rfl _ _ 43 rfl w.heap.size 3 i0 (.int .i64 0) 1 8 Try.underlying43 hi hz0 hz1 hz2 rfl (by decide) _ _ _ rfl (World.ownsRow.alloc HOW.out _) ⟨wr.heap.size, 0, none⟩ 1 1 [.int .i64 (0 : Int)] ?c0 rfl ?c1 ?c2 ?c3 ?c4 ?c5 ?_)))
                      try (case c0 => rfl)
                      try (case c1 => exact new_cell wr _)
                      case c2 => first | rfl | (intro u hu; simp at hu; subst hu; rfl)
                      case c3 => unfold maxLen; first | omega | (simp; omega)
                      case c4 => first | omega | (simp; omega)
                      case c5 => have := HBI.out.size; first | omega | (simp; omega)
                      intro v' w6 hown hgr _
                      have hB6 := hidM ((HBI.out.alloc HBI.out.size _).grown hgr (by have := HBI.out.size; simp; omega) (fun q hq => (World.ownsRow.lt HOW.out q hq).1))
                      obtain ⟨g2, q2', hv', hO6⟩ := ownN_push (c := 0) (by rw [HLEN.out]; exact hown)
                      rw [List.length_append, HLEN.out] at hv'
                      simp only [List.length_cons, List.length_nil, Nat.zero_add] at hv'
                      subst hv'
                      have HO6 := hidM hO6
                      clear hown hgr hO6 HOW HBI
                      go_wp2
                      go_ret2
                      rw [HF.out]
                      exact ⟨rfl, hB6.out⟩
                  · have hb1 : (d : Int).tmod 2 = 0 := by rw [Int.tmod_eq_emod_of_nonneg (by omega)]; omega
                    have hb2 : (d : Int) % 2 = 0 := by omega
                    have HRP := hidM (inR_skip HR.out hj7 (by rw [hbitd]; exact hbit))
                    clear hbitd hbit hd2 HD HR HOW2
                    go_wp2_with (first
                      | (at_builtin; go_loud (refine wpList_append_own _ rfl _ _ 43 rfl w.heap.size 3 i0 (.int .i64 0) 1 8 Try.underlying43 hi hz0 hz1 hz2 rfl (by decide) _ _ _ rfl (World.ownsRow.alloc HOW.out _) ⟨wr.heap.size, 0, none⟩ 1 1 [.int .i64 (0 : Int)] ?c0 rfl ?c1 ?c2 ?c3 ?c4 ?c5 ?_)))
                    try (case c0 => rfl)
                    try (case c1 => exact new_cell wr _)
                    case c2 => first | rfl | (intro u hu; simp at hu; subst hu; rfl)
                    case c3 => unfold maxLen; first | omega | (simp; omega)
                    case c4 => first | omega | (simp; omega)
                    case c5 => have := HBI.out.size; first | omega | (simp; omega)
                    intro v' w6 hown hgr _
                    have hB6 := hidM ((HBI.out.alloc HBI.out.size _).grown hgr (by have := HBI.out.size; simp; omega) (fun q hq => (World.ownsRow.lt HOW.out q hq).1))
                    obtain ⟨g2, q2', hv', hO6⟩ := ownN_push (c := 0) (by rw [HLEN.out]; exact hown)
                    rw [List.length_append, HLEN.out] at hv'
                    simp only [List.length_cons, List.length_nil, Nat.zero_add] at hv'
                    subst hv'
                    have HO6 := hidM hO6
                    clear hown hgr hO6 HOW HBI
                    go_wp2
                    refine ⟨⟨j + 1, d2, t, g2, q2', xs ++ [0], by omega, HD2.out, d2256, hts, hyt, rfl, rfl, rfl, by go_num, HRP.out, HO6.out, hB6.out⟩, ?_⟩
                    simp [intOf]; omega
                · have hj7' : ¬ (j : Int) < 7 := by omega
                  have hje : j = 7 := by omega
                  subst hje
                  obtain ⟨x0, x1, x2, x3, x4, x5, x6, hxs, l0, l1, l2, l3, l4, l5, l6, hin⟩ := inR_end (base := base) HR.out hlt HC.out hl
                  subst hxs
                  have e0 := HOW2.out.at 0 (by simp)
                  have e1 := HOW2.out.at 1 (by simp)
                  have e2 := HOW2.out.at 2 (by simp)
                  have e3 := HOW2.out.at 3 (by simp)
                  have e4 := HOW2.out.at 4 (by simp)
                  have e5 := HOW2.out.at 5 (by simp)
                  have e6 := HOW2.out.at 6 (by simp)
                  simp only [List.getElem_cons_zero, List.getElem_cons_succ] at e0 e1 e2 e3 e4 e5 e6
                  obtain ⟨p, hp⟩ : ∃ p, x0 + 256 * x1 + 65536 * x2 + 16777216 * x3 = p := ⟨_, rfl⟩
                  obtain ⟨l, hl2⟩ : ∃ l, x4 + 256 * x5 + 65536 * x6 = l := ⟨_, rfl⟩
                  obtain ⟨N, hN⟩ : ∃ N, (if l = 0 then 65536 else l) = N := ⟨_, rfl⟩
                  have HIN := hidM (hin p l N hp hl2 hN)
                  have hp' : (x0 : Int) + 256 * x1 + 65536 * x2 + 16777216 * x3 = (p : Int) := by omega
                  have hl3 : (x4 : Int) + 256 * x5 + 65536 * x6 = (l : Int) := by omega
                  have p32 : p < 4294967296 := by omega
                  have l24 : l < 16777216 := by omega
                  have N24 : N < 16777216 := by rw [← hN]; split <;> omega
                  have HN := hidM hN
                  clear hin hp hl2 hN HR HOW HOW2 HD
                  go_wp2
                  go_quiet (fail)
                  go_wp2
                  obtain ⟨W1, hW1⟩ : ∃ W1, W1 = wr.drewN nq := ⟨_, rfl⟩
                  have HBW1 := hidM (show Below w.heap.size w W1 by rw [hW1]; exact ⟨HBI.out.os, HBI.out.tape, HBI.out.output, HBI.out.size, HBI.out.block⟩)
                  have f4 : W1.cell? { block := g, off := 4 } = some (Value.int IntKind.i64 ↑x4) := by rw [hW1]; exact e4
                  have f5 : W1.cell? { block := g, off := 5 } = some (Value.int IntKind.i64 ↑x5) := by rw [hW1]; exact e5
                  have f6 : W1.cell? { block := g, off := 6 } = some (Value.int IntKind.i64 ↑x6) := by rw [hW1]; exact e6
                  rw [← hW1]
                  clear hW1
                  go_quiet (fail)
                  go_upto_region 33 with fail
                  obtain ⟨W, hW⟩ : ∃ W, W = W1.drewN nq := ⟨_, rfl⟩
                  have HBW := hidM (show Below w.heap.size w W by rw [hW]; exact ⟨HBW1.out.os, HBW1.out.tape, HBW1.out.output, HBW1.out.size, HBW1.out.block⟩)
                  rw [← hW]
                  clear hW HBI f4 f5 f6 HBW1 e0 e1 e2 e3 e4 e5 e6 hp' hl3 HLEN
                  by_cases hlz : l = 0
                  · have hN6 : N = 65536 := by have := HN.out; rw [if_pos hlz] at this; exact this.symm
                    subst hlz hN6
                    obtain ⟨m, hm2⟩ : ∃ m, p + 65536 = m := ⟨_, rfl⟩
                    have hm3 : (p : Int) + 65536 = (m : Int) := by omega
                    have m33 : m < 8589934592 := by omega
                    have hpm : p ≤ m := by omega
                    have HM := hidM hm2
                    clear hm2 HN
                    by_cases hbm : base.size < m
                    · have hbm' : (base.size : Int) < m := by omega
                      have HF3 := hidM (HE.out.trans (flL_step hlt HK.out (HIN.out.1 (by rw [HM.out]; exact hbm))))
                      clear HIN
                      go_wp2
                      go_ret2
                      rw [HF3.out]
                      exact ⟨rfl, HBW.out⟩
                    · have hbm' : ¬ (base.size : Int) < m := by omega
                      have HF0 := HE.out.trans (flL_step hlt HK.out (HIN.out.2 (by rw [HM.out]; exact hbm)))
                      rw [if_pos rfl, HM.out] at HF0
                      clear HIN
                      have hXs : (base.extract p m).size ≤ 1000000 := by simp only [ByteArray.size_extract]; omega
                      go_upto_region 38 with fail
                      generalize base.extract p m = X at *
                      have hOl : O.data.toList.length = O.size := by simp
                      rw [hOl] at HF0
                      have HF := hidM HF0
                      clear HF0 hOl hc'
                      by_cases hx : n < O.size + X.size
                      · have hx' : (n : Int) < (O.size : Int) + (X.size : Int) := by omega
                        have HF2 := hidM (HF.out.trans (if_pos hx))
                        clear HF
                        go_wp2
                        go_ret2
                        rw [HF2.out]
                        exact ⟨rfl, HBW.out⟩
                      · have hx' : ¬ (n : Int) < (O.size : Int) + (X.size : Int) := by omega
                        have HF2 := hidM (HF.out.trans (if_neg hx))
                        clear HF
                        go_wp2
                        refine ⟨⟨t, k - 1, O ++ X, hts, by have := HK.out; omega, by rw [ByteArray.size_append]; omega, rfl, rfl, HBW.out, by rw [HF2.out, ByteArray.data_append, Array.toList_append]⟩, ?_⟩
                        simp [intOf]; omega
                  · have hlz' : ¬ (l : Int) = 0 := by omega
                    have hNl : N = l := by have := HN.out; rw [if_neg hlz] at this; exact this.symm
                    subst hNl
                    obtain ⟨m, hm2⟩ : ∃ m, p + N = m := ⟨_, rfl⟩
                    have hm3 : (p : Int) + N = (m : Int) := by omega
                    have m33 : m < 8589934592 := by omega
                    have hpm : p ≤ m := by omega
                    have HM := hidM hm2
                    clear hm2 HN
                    by_cases hbm : base.size < m
                    · have hbm' : (base.size : Int) < m := by omega
                      have HF3 := hidM (HE.out.trans (flL_step hlt HK.out (HIN.out.1 (by rw [HM.out]; exact hbm))))
                      clear HIN
                      go_wp2
                      go_ret2
                      rw [HF3.out]
                      exact ⟨rfl, HBW.out⟩
                    · have hbm' : ¬ (base.size : Int) < m := by omega
                      have HF0 := HE.out.trans (flL_step hlt HK.out (HIN.out.2 (by rw [HM.out]; exact hbm)))
                      rw [if_pos rfl, HM.out] at HF0
                      clear HIN
                      have hXs : (base.extract p m).size ≤ 1000000 := by simp only [ByteArray.size_extract]; omega
                      go_upto_region 38 with fail
                      generalize base.extract p m = X at *
                      have hOl : O.data.toList.length = O.size := by simp
                      rw [hOl] at HF0
                      have HF := hidM HF0
                      clear HF0 hOl hc'
                      by_cases hx : n < O.size + X.size
                      · have hx' : (n : Int) < (O.size : Int) + (X.size : Int) := by omega
                        have HF2 := hidM (HF.out.trans (if_pos hx))
                        clear HF
                        go_wp2
                        go_ret2
                        rw [HF2.out]
                        exact ⟨rfl, HBW.out⟩
                      · have hx' : ¬ (n : Int) < (O.size : Int) + (X.size : Int) := by omega
                        have HF2 := hidM (HF.out.trans (if_neg hx))
                        clear HF
                        go_wp2
                        refine ⟨⟨t, k - 1, O ++ X, hts, by have := HK.out; omega, by rw [ByteArray.size_append]; omega, rfl, rfl, HBW.out, by rw [HF2.out, ByteArray.data_append, Array.toList_append]⟩, ?_⟩
                        simp [intOf]; omega
          · have hlt' : ¬ (y : Int) < s.size := by omega
            have HF := HE.out.trans (flL_end base s n k y _ hlt)
            have hOl : O.data.toList.length = O.size := by simp
            rw [hOl] at HF
            clear hOl
            by_cases hx : O.size < n
            · have hx' : (O.size : Int) < n := by omega
              have HF2 := hidM (HF.trans (if_pos hx))
              clear HF
              go_wp2
              go_ret2
              rw [HF2.out]
              exact ⟨rfl, HB.out⟩
            · have hx' : ¬ (O.size : Int) < n := by omega
              have HF2 := hidM (HF.trans (if_neg hx))
              clear HF
              go_wp2
              go_ret2
              rw [HF2.out]
              exact ⟨rfl, HB.out⟩
    · have ha' : ¬ (a : Int) = (base.size : Int) := by omega
      have HA4 := hidM (show apL base s most = ([], 4) by rw [hap, if_pos rfl, if_neg ha])
      clear hap
      go_wp2
      go_ret2
      rw [HA4.out]
      exact ⟨rfl, Below.refl _ _⟩
  · have her' : ¬ (er : Int) = 0 := by omega
    have HA4 := hidM (show apL base s most = ([], er) by rw [hap, if_neg her])
    clear hap
    go_wp2
    go_ret2
    rw [HA4.out]
    exact ⟨rfl, Below.refl _ _⟩
end Go.Proofs.Ytekpdnlogfaggaa
