/-
  Walks of the document's semver: Sort.
-/
import Derived.Test.YtdbkmcjdkiljaaaDoorInsM
import Derived.Test.YtdbkmcjdkiljaaaDoorOrdW
namespace Go.Proofs.YtdbkmcjdkiljaaaDoor
open Go.RowKit

theorem OwnS.kept {w w' : World} {B : Nat} {v : Value} {l : List ByteArray} (h : OwnS w B v l) (hb : Below w.heap.size w w') : OwnS w' B v l := by
  refine ⟨h.1, ?_⟩
  rcases h.2 with h2 | ⟨g, cap, cur, hv, hB, hbk, r⟩
  · exact Or.inl h2
  · exact Or.inr ⟨g, cap, cur, hv, hB, box_kept hbk hb, r⟩
theorem OwnS.sli {w : World} {B : Nat} {v : Value} {l : List ByteArray} (h : OwnS w B v l) : SliV w v l := by
  have h' := h
  rcases h.2 with ⟨hnil, hn⟩ | ⟨g, cap, cur, hv, hB, hbk, h1, _⟩
  · have : l = [] := List.length_eq_zero_iff.1 hn
    subst this
    exact ⟨none, 0, hnil, Nat.le_refl _, Or.inl rfl⟩
  · refine ⟨_, cap, hv, h1, Or.inr ⟨g, 0, rfl, (Array.getElem?_eq_some_iff.1 hbk).1, fun j hj => ?_⟩⟩
    have := World.ownsRow.cells h' (g := g) (by rw [hv]; rfl) j (.string l[j]) (by unfold strsV; simp [hj])
    rw [Addr.add_lit, Nat.zero_add] at this
    rw [Nat.zero_add]
    exact this
theorem own_none (w : World) : OwnS (w.alloc (.cells #[] 9)) w.heap.size (.slice (some ⟨w.heap.size, 0, none⟩) 0 0) [] :=
  ⟨rfl, Or.inr ⟨w.heap.size, 0, #[], rfl, Nat.le_refl _, heap_alloc_new w _, Nat.le_refl _, Nat.zero_le _, rfl, rfl⟩⟩
set_option maxHeartbeats 8000000 in
set_option maxRecDepth 100000 in
theorem rsort_any (v : Value) (l : List ByteArray) (w : World) (hs : ∀ x ∈ l, x.size ≤ 9223372036854775807) (hl : l.length ≤ 1000) (hv : SliV w v l) :
    Calls Tryd.prog 22 #[v] w fun e w' => SliRet (sortL l) e w' ∧ Below w.heap.size w w' := by
  obtain ⟨i0, hi, hz0, hz1, hz2⟩ := info_parts info9
  have HS := hidM hs
  have HV := hidM hv
  obtain ⟨a, cap, rfl, hcap, hor⟩ := hv
  have HOR := hidM hor
  clear hor hs
  have HST : Hid (SliV (w.alloc (.cells #[] 9)) (.slice (some ⟨w.heap.size, 0, none⟩) 0 0) (insL (l.take 0))) := (own_none w).sli
  go_enter Tryd.func22, Tryd.ntmps22
  go_wp2
  go_loopw [3, 5, 6, 7, 9, 10, 14] (fun v3 _ _ _ _ _ iv wr => ∃ k : Nat, k ≤ l.length ∧ iv = .int .i64 (k : Int) ∧ SliV wr v3 (insL (l.take k)) ∧ Below w.heap.size w wr) (fun _ _ _ _ _ _ i _ => l.length - (intOf i).toNat)
  case atStart => exact ⟨0, Nat.zero_le _, rfl, HST.out, (Below.refl _ _).alloc (Nat.le_refl _) _⟩
  case round =>
    obtain ⟨k, hk, rfl, hv3, hbr⟩ := hrel
    have HV3 := hidM hv3
    have HBR := hidM hbr
    clear hv3 hbr HST
    by_cases hlt : k < l.length
    · have gk : (k : Int) < (l.length : Int) := by omega
      obtain ⟨b, off, rfl, hltb, hst⟩ := HOR.out.resolve_left (fun e => by rw [e] at hlt; simp at hlt)
      have ck : wr.cell? ⟨b, off + k, none⟩ = some (.string l[k]) := (HBR.out.cell (p := ⟨b, off + k, none⟩) hltb).trans (hst k hlt)
      have hsk := HS.out l[k] (List.getElem_mem hlt)
      have HNX := hidM (insL_next l k hlt)
      have hOl : (insL (l.take k)).length = k := by rw [insL_len, List.length_take]; omega
      have HOS : Hid (∀ x ∈ insL (l.take k), x.size ≤ 9223372036854775807) := fun x hx => by
        rw [insL_sort] at hx
        exact HS.out x (List.mem_of_mem_take ((sortL_perm _).mem_iff.1 hx))
      clear hst
      generalize l[k] = s at *
      generalize insL (l.take k) = O at *
      obtain ⟨a3, c3, rfl, hc3, hor3⟩ := HV3.out
      have HOR3 := hidM hor3
      clear hor3 HV3
      rw [hOl]
      have HO0 := hidM (own_none wr)
      have HB0 : Hid (Below wr.heap.size wr (wr.alloc (.cells #[] 9))) := (Below.refl _ _).alloc (Nat.le_refl _) _
      have HSZ0 : Hid (wr.heap.size ≤ (wr.alloc (.cells #[] 9)).heap.size) := by unfold Hid; simp
      have hbw := HBR.out.size
      go_wp2
      have HWZ0 : Hid (wr.heap.size ≤ wr.heap.size) := Nat.le_refl _
      generalize hB2 : wr.heap.size = B2 at *
      generalize (wr.alloc (.cells #[] 9)) = w2 at *
      have HWZ : Hid (B2 ≤ wr.heap.size) := by unfold Hid; omega
      clear HWZ0
      have HBK : Hid (∀ V, Below B2 wr V → Below w.heap.size w V) := fun V h => HBR.out.trans (h.mono hbw)
      go_loopw [6, 7, 9, 10, 21] (fun v6 v7 _ _ iv wz => ∃ (j : Nat) (dn : Bool) (nx : List ByteArray), j ≤ k ∧ iv = .int .i64 (j : Int) ∧ v7 = .bool dn ∧ InsAt s O j dn nx ∧ OwnS wz B2 v6 nx ∧ B2 ≤ wz.heap.size ∧ Below B2 wr wz) (fun _ _ _ _ i _ => k - (intOf i).toNat)
      case atStart => exact ⟨0, false, [], Nat.zero_le _, rfl, rfl, InsAt.start s O, HO0.out, HSZ0.out, HB0.out⟩
      case round =>
        obtain ⟨j, dn, nx, hj, rfl, rfl, hins, hown, hbz, hbl⟩ := hrel
        have HIN := hidM hins
        have HO := hidM hown
        have HBL := hidM hbl
        have hnl := hins.len
        clear hins hown hbl HO0 HB0 HSZ0
        by_cases hjl : j < k
        · have gj : (j : Int) < (k : Int) := by omega
          have hjO : j < O.length := by omega
          obtain ⟨b3, o3, rfl, hlt3, hst3⟩ := HOR3.out.resolve_left (fun e => by rw [e] at hjO; simp at hjO)
          have cj : wr.cell? ⟨b3, o3 + j, none⟩ = some (.string O[j]) := (HBL.out.cell (p := ⟨b3, o3 + j, none⟩) hlt3).trans (hst3 j hjO)
          have hxj := HOS.out O[j] (List.getElem_mem hjO)
          have HCM := hidM (rcompare_any s O[j] wr hsk hxj)
          have hrg := ord_text.rng s O[j]
          have HHIT : Hid (dn = false → sorC s O[j] < 0 → InsAt s O (j + 1) true (nx ++ [s] ++ [O[j]])) := fun e h => by subst e; exact HIN.out.hit hjO h
          have HPAS : Hid (dn = false → ¬ sorC s O[j] < 0 → InsAt s O (j + 1) false (nx ++ [O[j]])) := fun e h => by subst e; exact HIN.out.pass hjO h
          have HBEH : Hid (dn = true → InsAt s O (j + 1) true (nx ++ [O[j]])) := fun e => by subst e; exact HIN.out.behind hjO
          have hsor : sorC s O[j] = if cmpS s O[j] = 0 then Lib.compareBytes s.data.toList O[j].data.toList else cmpS s O[j] := rfl
          have hcb := cb_rng s.data.toList O[j].data.toList
          have hlb := less_cmp s.data.toList O[j].data.toList
          rw [← Lib.toList_data s, ← Lib.toList_data O[j]] at hlb
          rw [← Lib.toList_data s, ← Lib.toList_data O[j]] at hcb hsor
          clear hst3
          generalize O[j] = x at *
          generalize Lib.compareBytes s.toList x.toList = cb at *
          generalize cmpS s x = c at *
          go_wp2_with fail
          refine HCM.out.mono ?_
          rintro _ w4 ⟨rfl, hb4⟩
          have HO4 := hidM (HO.out.kept hb4)
          have HBL4 := hidM (HBL.out.trans (hb4.mono hbz))
          have hbz4 : B2 ≤ w4.heap.size := Nat.le_trans hbz hb4.size
          have HB2L : Hid (B2 ≤ w4.heap.size) := hbz4
          clear hb4 HO HBL cj HCM
          generalize hso : sorC s x = so at *
          cases dn with
          | true =>
            as_aux_lemma =>
            have HF := hidM (HBEH.out rfl)
            clear HHIT HPAS HBEH hsor hcb hlb hrg
            go_wp2_with (at_builtin; refine wpList_append_own _ rfl _ _ 35 rfl B2 9 i0 (.string .empty) 1 16 Tryd.underlying35 hi hz0 hz1 hz2 rfl (by decide) _ _ _ rfl (World.ownsRow.alloc HO4.out _) ⟨w4.heap.size, 0, none⟩ 1 1 [.string x] ?z10 rfl ?z11 ?z12 ?z13 ?z14 ?z15 ?_)
            case z10 => rfl
            case z11 => exact cell_new_at _ _ _ _ rfl
            case z12 => first | rfl | (intro u hu; simp at hu; subst hu; rfl)
            case z13 => unfold maxLen; omega
            case z14 => omega
            case z15 => first | omega | (simp; omega)
            intro v_z1 w9 hown_z1 hgrow_z1 _
            have HO9 := hidM (OwnS.push hown_z1)
            have HB9 := hidM (OwnS.below HO4.out HBL4.out hbz4 hgrow_z1)
            have hz9 := HB9.out.size
            clear hown_z1 hgrow_z1
            go_wp2_with fail
            go_roundw
            case rel => exact ⟨j + 1, true, _, by omega, by go_num, rfl, HF.out, HO9.out, Nat.le_trans HWZ.out HB9.out.size, HB9.out⟩
            case measure => simp [intOf]; omega
          | false =>
            rcases hrg with rfl | rfl | rfl
            · as_aux_lemma =>
              have HF := hidM (HHIT.out rfl (by rw [hsor, if_neg (by decide)]; decide))
              clear HHIT HPAS HBEH hsor hcb hlb
              go_wp2_with (at_builtin; refine wpList_append_own _ rfl _ _ 35 rfl B2 9 i0 (.string .empty) 1 16 Tryd.underlying35 hi hz0 hz1 hz2 rfl (by decide) _ _ _ rfl (World.ownsRow.alloc HO4.out _) ⟨w4.heap.size, 0, none⟩ 1 1 [.string s] ?z20 rfl ?z21 ?z22 ?z23 ?z24 ?z25 ?_)
              case z20 => rfl
              case z21 => exact cell_new_at _ _ _ _ rfl
              case z22 => first | rfl | (intro u hu; simp at hu; subst hu; rfl)
              case z23 => unfold maxLen; omega
              case z24 => omega
              case z25 => first | omega | (simp; omega)
              intro v_z2 w8 hown_z2 hgrow_z2 _
              have HO8 := hidM (OwnS.push hown_z2)
              have HB8 := hidM (OwnS.below HO4.out HBL4.out hbz4 hgrow_z2)
              have hz8 := HB8.out.size
              clear hown_z2 hgrow_z2
              have hz8b : B2 ≤ w8.heap.size := Nat.le_trans HWZ.out hz8
              have hl8 : (nx ++ [s]).length ≤ nx.length + 1 := by simp
              generalize nx ++ [s] = nx8 at *
              go_wp2_with (at_builtin; refine wpList_append_own _ rfl _ _ 35 rfl B2 9 i0 (.string .empty) 1 16 Tryd.underlying35 hi hz0 hz1 hz2 rfl (by decide) _ _ _ rfl (World.ownsRow.alloc HO8.out _) ⟨w8.heap.size, 0, none⟩ 1 1 [.string x] ?z30 rfl ?z31 ?z32 ?z33 ?z34 ?z35 ?_)
              case z30 => rfl
              case z31 => exact cell_new_at _ _ _ _ rfl
              case z32 => first | rfl | (intro u hu; simp at hu; subst hu; rfl)
              case z33 => unfold maxLen; omega
              case z34 => omega
              case z35 => first | omega | (simp; omega)
              intro v_z3 w9 hown_z3 hgrow_z3 _
              have HO9 := hidM (OwnS.push hown_z3)
              have HB9 := hidM (OwnS.below HO8.out HB8.out hz8b hgrow_z3)
              have hz9 := HB9.out.size
              clear hown_z3 hgrow_z3
              go_wp2_with fail
              go_roundw
              case rel => exact ⟨j + 1, true, _, by omega, by go_num, rfl, HF.out, HO9.out, Nat.le_trans HWZ.out HB9.out.size, HB9.out⟩
              case measure => simp [intOf]; omega
            · rcases hcb with rfl | rfl | rfl
              · as_aux_lemma =>
                have HF := hidM (HHIT.out rfl (by rw [hsor]; decide))
                have e1 : Op.bytesLess s.toList x.toList = true := hlb.trans (by decide)
                clear HHIT HPAS HBEH hsor hlb
                go_wp2_with (at_builtin; refine wpList_append_own _ rfl _ _ 35 rfl B2 9 i0 (.string .empty) 1 16 Tryd.underlying35 hi hz0 hz1 hz2 rfl (by decide) _ _ _ rfl (World.ownsRow.alloc HO4.out _) ⟨w4.heap.size, 0, none⟩ 1 1 [.string s] ?z40 rfl ?z41 ?z42 ?z43 ?z44 ?z45 ?_)
                case z40 => rfl
                case z41 => exact cell_new_at _ _ _ _ rfl
                case z42 => first | rfl | (intro u hu; simp at hu; subst hu; rfl)
                case z43 => unfold maxLen; omega
                case z44 => omega
                case z45 => first | omega | (simp; omega)
                intro v_z4 w8 hown_z4 hgrow_z4 _
                have HO8 := hidM (OwnS.push hown_z4)
                have HB8 := hidM (OwnS.below HO4.out HBL4.out hbz4 hgrow_z4)
                have hz8 := HB8.out.size
                clear hown_z4 hgrow_z4
                have hz8b : B2 ≤ w8.heap.size := Nat.le_trans HWZ.out hz8
                have hl8 : (nx ++ [s]).length ≤ nx.length + 1 := by simp
                generalize nx ++ [s] = nx8 at *
                go_wp2_with (at_builtin; refine wpList_append_own _ rfl _ _ 35 rfl B2 9 i0 (.string .empty) 1 16 Tryd.underlying35 hi hz0 hz1 hz2 rfl (by decide) _ _ _ rfl (World.ownsRow.alloc HO8.out _) ⟨w8.heap.size, 0, none⟩ 1 1 [.string x] ?z50 rfl ?z51 ?z52 ?z53 ?z54 ?z55 ?_)
                case z50 => rfl
                case z51 => exact cell_new_at _ _ _ _ rfl
                case z52 => first | rfl | (intro u hu; simp at hu; subst hu; rfl)
                case z53 => unfold maxLen; omega
                case z54 => omega
                case z55 => first | omega | (simp; omega)
                intro v_z5 w9 hown_z5 hgrow_z5 _
                have HO9 := hidM (OwnS.push hown_z5)
                have HB9 := hidM (OwnS.below HO8.out HB8.out hz8b hgrow_z5)
                have hz9 := HB9.out.size
                clear hown_z5 hgrow_z5
                go_wp2_with fail
                go_roundw
                case rel => exact ⟨j + 1, true, _, by omega, by go_num, rfl, HF.out, HO9.out, Nat.le_trans HWZ.out HB9.out.size, HB9.out⟩
                case measure => simp [intOf]; omega
              · as_aux_lemma =>
                have HF := hidM (HPAS.out rfl (by rw [hsor]; decide))
                have e1 : Op.bytesLess s.toList x.toList = false := hlb.trans (by decide)
                clear HHIT HPAS HBEH hsor hlb
                go_wp2_with (at_builtin; refine wpList_append_own _ rfl _ _ 35 rfl B2 9 i0 (.string .empty) 1 16 Tryd.underlying35 hi hz0 hz1 hz2 rfl (by decide) _ _ _ rfl (World.ownsRow.alloc HO4.out _) ⟨w4.heap.size, 0, none⟩ 1 1 [.string x] ?z60 rfl ?z61 ?z62 ?z63 ?z64 ?z65 ?_)
                case z60 => rfl
                case z61 => exact cell_new_at _ _ _ _ rfl
                case z62 => first | rfl | (intro u hu; simp at hu; subst hu; rfl)
                case z63 => unfold maxLen; omega
                case z64 => omega
                case z65 => first | omega | (simp; omega)
                intro v_z6 w9 hown_z6 hgrow_z6 _
                have HO9 := hidM (OwnS.push hown_z6)
                have HB9 := hidM (OwnS.below HO4.out HBL4.out hbz4 hgrow_z6)
                have hz9 := HB9.out.size
                clear hown_z6 hgrow_z6
                go_wp2_with fail
                go_roundw
                case rel => exact ⟨j + 1, false, _, by omega, by go_num, rfl, HF.out, HO9.out, Nat.le_trans HWZ.out HB9.out.size, HB9.out⟩
                case measure => simp [intOf]; omega
              · as_aux_lemma =>
                have HF := hidM (HPAS.out rfl (by rw [hsor]; decide))
                have e1 : Op.bytesLess s.toList x.toList = false := hlb.trans (by decide)
                clear HHIT HPAS HBEH hsor hlb
                go_wp2_with (at_builtin; refine wpList_append_own _ rfl _ _ 35 rfl B2 9 i0 (.string .empty) 1 16 Tryd.underlying35 hi hz0 hz1 hz2 rfl (by decide) _ _ _ rfl (World.ownsRow.alloc HO4.out _) ⟨w4.heap.size, 0, none⟩ 1 1 [.string x] ?z70 rfl ?z71 ?z72 ?z73 ?z74 ?z75 ?_)
                case z70 => rfl
                case z71 => exact cell_new_at _ _ _ _ rfl
                case z72 => first | rfl | (intro u hu; simp at hu; subst hu; rfl)
                case z73 => unfold maxLen; omega
                case z74 => omega
                case z75 => first | omega | (simp; omega)
                intro v_z7 w9 hown_z7 hgrow_z7 _
                have HO9 := hidM (OwnS.push hown_z7)
                have HB9 := hidM (OwnS.below HO4.out HBL4.out hbz4 hgrow_z7)
                have hz9 := HB9.out.size
                clear hown_z7 hgrow_z7
                go_wp2_with fail
                go_roundw
                case rel => exact ⟨j + 1, false, _, by omega, by go_num, rfl, HF.out, HO9.out, Nat.le_trans HWZ.out HB9.out.size, HB9.out⟩
                case measure => simp [intOf]; omega
            · as_aux_lemma =>
              have HF := hidM (HPAS.out rfl (by rw [hsor, if_neg (by decide)]; decide))
              clear HHIT HPAS HBEH hsor hcb hlb
              go_wp2_with (at_builtin; refine wpList_append_own _ rfl _ _ 35 rfl B2 9 i0 (.string .empty) 1 16 Tryd.underlying35 hi hz0 hz1 hz2 rfl (by decide) _ _ _ rfl (World.ownsRow.alloc HO4.out _) ⟨w4.heap.size, 0, none⟩ 1 1 [.string x] ?z80 rfl ?z81 ?z82 ?z83 ?z84 ?z85 ?_)
              case z80 => rfl
              case z81 => exact cell_new_at _ _ _ _ rfl
              case z82 => first | rfl | (intro u hu; simp at hu; subst hu; rfl)
              case z83 => unfold maxLen; omega
              case z84 => omega
              case z85 => first | omega | (simp; omega)
              intro v_z8 w9 hown_z8 hgrow_z8 _
              have HO9 := hidM (OwnS.push hown_z8)
              have HB9 := hidM (OwnS.below HO4.out HBL4.out hbz4 hgrow_z8)
              have hz9 := HB9.out.size
              clear hown_z8 hgrow_z8
              go_wp2_with fail
              go_roundw
              case rel => exact ⟨j + 1, false, _, by omega, by go_num, rfl, HF.out, HO9.out, Nat.le_trans HWZ.out HB9.out.size, HB9.out⟩
              case measure => simp [intOf]; omega
        · obtain rfl : j = k := by omega
          have gj : ¬ (j : Int) < (j : Int) := by omega
          cases dn with
          | true =>
            as_aux_lemma =>
            have HE : Hid (nx = insS s O) := by have := HIN.out; rw [← hOl] at this; exact this.endYes
            go_wp2_with fail
            go_roundw
            case rel => exact ⟨j + 1, by omega, by go_num, by rw [HNX.out, ← HE.out]; exact HO.out.sli, HBK.out _ HBL.out⟩
            case measure => simp [intOf]; omega
          | false =>
            as_aux_lemma =>
            have HE : Hid (nx ++ [s] = insS s O) := by have := HIN.out; rw [← hOl] at this; exact this.endNo
            have HB2L : Hid (B2 ≤ wr.heap.size) := hbz
            go_wp2_with (at_builtin; refine wpList_append_own _ rfl _ _ 35 rfl B2 9 i0 (.string .empty) 1 16 Tryd.underlying35 hi hz0 hz1 hz2 rfl (by decide) _ _ _ rfl (World.ownsRow.alloc HO.out _) ⟨wr.heap.size, 0, none⟩ 1 1 [.string s] ?z90 rfl ?z91 ?z92 ?z93 ?z94 ?z95 ?_)
            case z92 => first | rfl | (intro u hu; simp at hu; subst hu; rfl)
            case z93 => unfold maxLen; omega
            case z94 => omega
            case z95 => first | omega | (simp; omega)
            intro v_z9 w9 hown_z9 hgrow_z9 _
            have HO9 := hidM (OwnS.push hown_z9)
            have HB9 := hidM (OwnS.below HO.out HBL.out hbz hgrow_z9)
            have hz9 := HB9.out.size
            clear hown_z9 hgrow_z9
            go_wp2_with fail
            go_roundw
            case rel => exact ⟨j + 1, by omega, by go_num, by rw [HNX.out, ← HE.out]; exact HO9.out.sli, HBK.out _ HB9.out⟩
            case measure => simp [intOf]; omega
    · obtain rfl : k = l.length := by omega
      have gk : ¬ (l.length : Int) < (l.length : Int) := by omega
      rw [List.take_length, insL_sort] at HV3
      go_wp2
      go_ret
      exact ⟨⟨_, rfl, HV3.out⟩, HBR.out⟩
end Go.Proofs.YtdbkmcjdkiljaaaDoor
