/-
  SnapTurns: the order of the files shows nowhere, and each path that is listed leads to a file.
-/
import Derived.Test.YtolohndbbnbfbaaDoorTurnW
import Derived.Test.YtolohndbbnbfbaaDoorNamA
namespace Go.Proofs.YtolohndbbnbfbaaDoor
open Go.RowKit

theorem bigF_perm {fs gs : List FileB} (h : fs.Perm gs) : bigF fs ↔ bigF gs := by
  unfold bigF
  rw [h.length_eq, sizeF_perm h]
theorem drop_back (us : List FileB) (j : Nat) (h : j < us.length) : (us.drop j).reverse = (us.drop (j + 1)).reverse ++ [us[j]] := by
  rw [List.drop_eq_getElem_cons h, List.reverse_cons]
theorem cell_new2 (w : World) (u v : Value) (t : Nat) : ∀ j x, [u, v][j]? = some x → (w.alloc (.cells #[u, v] t)).cell? ((⟨w.heap.size, 0, none⟩ : Addr).add j) = some x := by
  intro j x hj
  rcases j with _ | _ | j
  · simp at hj; subst hj; rw [Addr.add_lit]; simp
  · simp at hj; subst hj; rw [Addr.add_lit]; simp
  · simp at hj
set_option maxRecDepth 100000 in
set_option maxHeartbeats 6400000 in
theorem turns_walk (v : Value) (fs : List FileB) (w : World) (hV : FilesV w v fs) (hsz : ∀ f ∈ fs, f.2.size ≤ 140737488355328) :
    Calls Tryd.prog 5 #[v] w fun e w' => e = .returned (.bool true) ∧ Below w.heap.size w w' := by
  have HFW := hidM (few_any v 60 fs w hV (by decide))
  have HSZ : Hid (sizeF (fs.take 60) ≤ 4611686018427387904) := size_few fs 60 (by decide) hsz
  have htl : (fs.take 60).length ≤ 60 := by simp; omega
  obtain ⟨i0, hi, hz0, hz1, hz2⟩ := info_parts info32
  generalize fs.take 60 = us at *
  clear hV hsz
  go_enter Tryd.func5, Tryd.ntmps5
  go_wp2_with fail
  refine HFW.out.mono ?_
  rintro _ w1 ⟨⟨g, cap, rfl, hg1, hg2, hcap, hH⟩, hb1⟩
  have HF := hidM (FilesAt.of_holds hH)
  have HB1 := hidM hb1
  have hs1 := hb1.size
  clear hH hb1 HFW
  go_wp2_with fail
  have HO0 : Hid (OwnF (w1.alloc (.cells #[] 32)) w1.heap.size (.slice (some ⟨w1.heap.size, 0, none⟩) 0 0) (us.drop us.length).reverse) := by
    unfold Hid
    rw [List.drop_of_length_le (Nat.le_refl _)]
    exact ⟨by rw [flat_list]; exact World.ownsRow_made w1 #[] 0 (Nat.le_refl _) (Nat.zero_le _) (by simp), by simp⟩
  go_loopw [4, 5] (fun bv iv wr => ∃ (r : Nat), r ≤ us.length ∧ iv = .int .i64 ((r : Int) - 1) ∧ OwnF wr w1.heap.size bv (us.drop r).reverse ∧ Below w1.heap.size w1 wr) (fun _ iv _ => (intOf iv + 1).toNat)
  case atStart => exact ⟨us.length, Nat.le_refl _, rfl, HO0.out, (Below.refl _ _).alloc (Nat.le_refl _) _⟩
  case round =>
    obtain ⟨r, hr, rfl, hown, hbr⟩ := hrel
    have HO := hidM hown
    have HB := hidM hbr
    have hsr := hbr.size
    clear hown hbr HO0
    by_cases hr0 : r = 0
    · subst hr0
      rw [List.drop_zero] at HO
      obtain ⟨g2, c2, rfl, hh1, hh2, hh3, hfa⟩ := HO.out.shape
      have HFA := hidM hfa
      have HFX := hidM (HF.out.below HB.out hg2)
      have hgx : g < wr.heap.size := Nat.lt_of_lt_of_le hg2 hsr
      have hrl : us.reverse.length = us.length := List.length_reverse
      have HRL := hidM hrl
      have HPR : Hid (us.reverse.Perm us) := List.reverse_perm us
      have HSR : Hid (sizeF us.reverse ≤ 4611686018427387904) := by unfold Hid; rw [sizeF_perm HPR.out]; exact HSZ.out
      have HBW : Hid (Below w.heap.size w wr) := HB1.out.trans (HB.out.mono hs1)
      have HN2 := hidM (fun W (h1 : g2 < W.heap.size) (h2 : FilesAt W g2 0 us.reverse) => new_any g2 0 c2 us.reverse W h1 h2 HSR.out (by omega))
      rw [HRL.out] at HN2
      rw [hrl] at hh3
      rw [hrl]
      clear hfa HO hrl
      go_wp2_with fail
      refine (new_any g 0 cap us wr hgx HFX.out HSZ.out (by omega)).mono ?_
      rintro _ w3 ⟨hp1, hb3⟩
      have HFA3 := hidM (HFA.out.below hb3 hh2)
      have hgy : g2 < w3.heap.size := Nat.lt_of_lt_of_le hh2 hb3.size
      have HB3 : Hid (Below w.heap.size w w3) := HBW.out.trans (hb3.mono HBW.out.size)
      clear hb3
      rcases hp1 with ⟨hx1, rfl⟩ | ⟨hx1, hy1, rfl⟩ | ⟨hx1, hy1, gs, q1, b1, c1, hperm1, hrs1, hF1, _, _, rfl⟩
      · unfold newR
        go_wp2_with fail
        refine (HN2.out _ hgy HFA3.out).mono ?_
        rintro _ w4 ⟨hp2, hb4⟩
        have HB4 : Hid (Below w.heap.size w w4) := HB3.out.trans (hb4.mono HB3.out.size)
        rcases hp2 with ⟨_, rfl⟩ | ⟨hx2, _⟩ | ⟨hx2, _⟩
        · clear hb4
          unfold newR
          go_wp2_with fail
          refine (awake7_any _).mono ?_
          rintro _ w5 ⟨rfl, hb5⟩
          go_wp2_with fail
          go_ret
          exact ⟨rfl, HB4.out.trans (hb5.mono HB4.out.size)⟩
        · exact absurd ((bigF_perm HPR.out).2 hx1) hx2
        · exact absurd ((bigF_perm HPR.out).2 hx1) hx2
      · unfold newR
        go_wp2_with fail
        refine (HN2.out _ hgy HFA3.out).mono ?_
        rintro _ w4 ⟨hp2, hb4⟩
        have HB4 : Hid (Below w.heap.size w w4) := HB3.out.trans (hb4.mono HB3.out.size)
        rcases hp2 with ⟨hx2, _⟩ | ⟨_, _, rfl⟩ | ⟨_, hy2, _⟩
        · exact absurd ((bigF_perm HPR.out).1 hx2) hx1
        · clear hb4
          unfold newR
          go_wp2_with fail
          refine (awake7_any _).mono ?_
          rintro _ w5 ⟨rfl, hb5⟩
          go_wp2_with fail
          go_ret
          exact ⟨rfl, HB4.out.trans (hb5.mono HB4.out.size)⟩
        · exact absurd (okF.perm HPR.out hy2) hy1
      · have HF1 := hidM hF1
        clear hF1
        unfold newR
        go_wp2_with fail
        refine (HN2.out _ hgy HFA3.out).mono ?_
        rintro _ w4 ⟨hp2, hb4⟩
        have HB4 : Hid (Below w.heap.size w w4) := HB3.out.trans (hb4.mono HB3.out.size)
        rcases hp2 with ⟨hx2, _⟩ | ⟨_, hy2, _⟩ | ⟨_, _, gs2, q2, b2, cc2, hperm2, hrs2, hF2, _, _, rfl⟩
        · exact absurd ((bigF_perm HPR.out).1 hx2) hx1
        · exact absurd (okF.perm HPR.out.symm hy1) hy2
        · have hgg : gs2 = gs := RiseS.one ((hperm2.trans HPR.out).trans hperm1.symm) hrs2 hrs1
          subst hgg
          have HTW : Hid (Two w4 q1 b1 c1 q2 b2 cc2 gs2) := ⟨HF1.out.below hb4, hF2⟩
          have hgl : gs2.length = us.length := hperm1.length_eq
          have HGL := hidM hgl
          have HCL : Hid (∀ f ∈ gs2, cleanB f.1 = true) := fun f hf => hy1.1 f (hperm1.mem_iff.1 hf)
          have HSG : Hid (sizeF gs2 ≤ 4611686018427387904) := by unfold Hid; rw [sizeF_perm hperm1]; exact HSZ.out
          have HRS := hidM hrs1
          have HFD := hidM (fun W hW => found_any q1 b1 c1 q2 b2 cc2 gs2 HRS.out HCL.out (by omega) 201 ⟨#[]⟩ W hW (.inl rfl) (Nat.le_add_left _ _))
          rw [front_zero rfl, und_all, HGL.out] at HFD
          clear hF2 hb4 hperm1 hperm2 hrs1 hrs2 hy1 hx1 HF1 HFX HFA HFA3 HN2 hgl
          unfold newR
          go_wp2_with fail
          refine (HFD.out _ HTW.out).mono ?_
          rintro _ w5 ⟨rfl, hb5⟩
          have HTW5 := hidM (HTW.out.below hb5)
          have HB5 : Hid (Below w.heap.size w w5) := HB4.out.trans (hb5.mono HB4.out.size)
          clear hb5
          go_wp2_with fail
          refine (awake7_any _).mono ?_
          rintro _ w6 ⟨rfl, hb6⟩
          have HTW6 := hidM (HTW5.out.below hb6)
          have HB6 : Hid (Below w.heap.size w w6) := HB5.out.trans (hb6.mono HB5.out.size)
          clear hb6
          go_wp2_with fail
          refine (sizes_any q1 b1 0 c1 gs2 _ HTW6.out.one HSG.out (by have := HGL.out; omega)).mono ?_
          rintro _ w7 ⟨rfl, hb7⟩
          have HTW7 := hidM (HTW6.out.below hb7)
          have HB7 : Hid (Below w.heap.size w w7) := HB6.out.trans (hb7.mono HB6.out.size)
          clear hb7
          go_wp2_with fail
          refine (sizes_any q2 b2 0 cc2 gs2 _ HTW7.out.two HSG.out (by have := HGL.out; omega)).mono ?_
          rintro _ w8 ⟨rfl, hb8⟩
          have HB8 : Hid (Below w.heap.size w w8) := HB7.out.trans (hb8.mono HB7.out.size)
          clear hb8
          go_wp2_with fail
          go_ret
          exact ⟨by simp, HB8.out⟩
    · obtain ⟨j, rfl⟩ : ∃ j, r = j + 1 := ⟨r - 1, by omega⟩
      have jl : j < us.length := by omega
      have r1 : ((j + 1 : Nat) : Int) - 1 = (j : Int) := by omega
      have r2 : (j : Int) < (us.length : Int) := by omega
      have r3 : (0 : Int) ≤ (j : Int) := by omega
      have y0 := (HF.out.below HB.out hg2 j jl).1
      have y1 := (HF.out.below HB.out hg2 j jl).2
      simp only [Nat.zero_add] at y0 y1
      have HDB : Hid ((us.drop j).reverse = (us.drop (j + 1)).reverse ++ [(us[j].1, us[j].2)]) := drop_back us j jl
      have hdl : (us.drop (j + 1)).reverse.length ≤ 60 := by simp; omega
      generalize us[j].1 = X at *
      generalize us[j].2 = Y at *
      rw [r1]
      generalize (us.drop (j + 1)).reverse = T at *
      clear hr0
      go_wp2_with (first
        | (at_builtin; refine wpList_append_own _ rfl _ _ 22 rfl w1.heap.size 32 i0 (.agg #[.string .empty, .string .empty]) 2 32 Tryd.underlying22 hi hz0 hz1 hz2 rfl (by decide) _ _ _ rfl (World.ownsRow.alloc HO.out.1 _) ⟨wr.heap.size, 0, none⟩ 1 1 [.string X, .string Y] ?d0 rfl ?d1 ?d2 ?d3 ?d4 ?d5 ?_))
      case d0 => rfl
      case d1 => exact cell_new2 _ _ _ _
      case d2 => intro u hu; simp at hu; rcases hu with rfl | rfl <;> rfl
      case d3 => unfold maxLen; omega
      case d4 => omega
      case d5 => simp; omega
      intro v' w5 hown' hgrow hnil
      have HNN : Hid (v' ≠ .slice none 0 0) := by first | exact hnil | exact (fun hv => by have := (hnil.1 hv).2; omega)
      have HO5 : Hid (OwnF w5 w1.heap.size v' (T ++ [(X, Y)])) := OwnF.push hown' HNN.out
      have HB5 : Hid (Below w1.heap.size w1 w5) := (HB.out.alloc hsr _).grown hgrow (by simp; omega) (fun k hk => (World.ownsRow.lt HO.out.1 k hk).1)
      clear hown' hgrow hnil
      go_wp2_with fail
      go_roundw
      case rel => exact ⟨j, by omega, by go_num, by rw [HDB.out]; exact HO5.out, HB5.out⟩
      case measure => (show ((j : Int) - 1 + 1).toNat < ((j : Int) + 1).toNat); omega
end Go.Proofs.YtolohndbbnbfbaaDoor
