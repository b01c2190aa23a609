/-
  The document's Module.
-/
import Derived.Test.YtgkjmmfpbcgmgaaDoorRpW
namespace Go.Proofs.YtgkjmmfpbcgmgaaDoor
open Go.RowKit

def RLnsAt (w : World) (g off : Nat) (ls : List Ln) : Prop := ∀ i, i < ls.length → ∃ na nc, w.cell? ⟨g, off + i * 3, none⟩ = some (strV (ls.getD i noL).1) ∧ w.cell? ⟨g, off + i * 3 + 1, none⟩ = some (.slice na (ls.getD i noL).2.1.length nc) ∧
  w.cell? ⟨g, off + i * 3 + 2, none⟩ = some (.int .i64 ((ls.getD i noL).2.2 : Int)) ∧ WIn w (.slice na (ls.getD i noL).2.1.length nc) ((ls.getD i noL).2.1.map mkB)
def RLinesV (w : World) (a : Option Addr) (ls : List Ln) : Prop := ls = [] ∨ ∃ g off, a = some ⟨g, off, none⟩ ∧ g < w.heap.size ∧ RLnsAt w g off ls
theorem RLines.view {w : World} {base : Nat} {lv : Value} {ls : List Ln} (h : RLines w base lv ls) : ∃ a c, lv = .slice a ls.length c ∧ RLinesV w a ls := by
  obtain ⟨wvs, h1, h2, h3⟩ := h
  rcases h1.2 with ⟨rfl, hn⟩ | ⟨g, cap, cur, rfl, hB, hg, hnc, hcm, hcs, htk⟩
  · exact ⟨none, 0, by rw [hn], .inl (List.length_eq_zero_iff.1 hn)⟩
  · refine ⟨_, _, rfl, .inr ⟨g, 0, rfl, lt_of_some hg, fun i hi => ?_⟩⟩
    obtain ⟨f0, f1, f2⟩ := flatL_get ls wvs i hi h2
    have hw := h3 i hi
    obtain ⟨na, nc, hv, _⟩ := id hw
    rw [List.length_map] at hv
    rw [hv] at f1 hw
    have hadd : ∀ j, (⟨g, 0, none⟩ : Addr).add j = ⟨g, j, none⟩ := fun j => by unfold Addr.add; split <;> simp_all
    refine ⟨na, nc, ?_, ?_, ?_, hw⟩
    · have := World.ownsRow.cells (g := g) h1 rfl _ _ f0; rw [hadd] at this; simpa using this
    · have := World.ownsRow.cells (g := g) h1 rfl _ _ f1; rw [hadd] at this; simpa using this
    · have := World.ownsRow.cells (g := g) h1 rfl _ _ f2; rw [hadd] at this; simpa using this
theorem RLinesV.below {w w' : World} {a : Option Addr} {ls : List Ln} (h : RLinesV w a ls) (hb : Below w.heap.size w w') : RLinesV w' a ls := by
  rcases h with h | ⟨g, off, h1, h2, h3⟩
  · exact .inl h
  · refine .inr ⟨g, off, h1, Nat.lt_of_lt_of_le h2 hb.size, fun i hi => ?_⟩
    obtain ⟨na, nc, c0, c1, c2, hw⟩ := h3 i hi
    exact ⟨na, nc, (hb.cell (p := ⟨g, _, none⟩) h2).trans c0, (hb.cell (p := ⟨g, _, none⟩) h2).trans c1, (hb.cell (p := ⟨g, _, none⟩) h2).trans c2, hw.below hb⟩
theorem RLinesV.at {w : World} {a : Option Addr} {ls : List Ln} (h : RLinesV w a ls) {k : Nat} (hk : k < ls.length) : ∃ g off, a = some ⟨g, off, none⟩ ∧ g < w.heap.size ∧ RLnsAt w g off ls := by
  rcases h with h | h
  · rw [h] at hk; simp at hk
  · exact h
set_option maxHeartbeats 4000000 in
set_option maxRecDepth 100000 in
theorem rmodule_any (s : ByteArray) (w : World) (hs : s.size ≤ 65536) :
    Calls Tryd.prog 12 #[.string s] w fun e w' => ModQ (modL s.data.toList) w e w' := by
  have HP := hidM (rparse_any s w hs)
  unfold RParPost at HP
  have HE : Hid ((parL s.data.toList).2.2 = 0 ∨ (parL s.data.toList).2.2 = 3) := by
    have := par_err (s.data.toList.length + 1) s.data.toList [] [] 1 (Nat.lt_succ_self _)
    unfold parL
    rcases this with h | h
    · exact .inl h.1
    · exact .inr h.1
  have HR : Hid (modL s.data.toList = if (parL s.data.toList).2.2 ≠ 0 then ([], (parL s.data.toList).2.1, (parL s.data.toList).2.2) else modG (parL s.data.toList).1 []) := rfl
  have HLN : Hid ((parL s.data.toList).1.length ≤ 70000) := by
    have := par_len (s.data.toList.length + 1) s.data.toList [] [] 1 (Nat.lt_succ_self _)
    unfold Hid parL
    rw [sl_len] at *
    simp at this
    omega
  generalize modL s.data.toList = R at *
  generalize parL s.data.toList = P at *
  obtain ⟨ls, at_, er⟩ := P
  simp only at HP HE HR HLN
  by_cases h0 : er = 0
  · subst h0
    rw [if_neg (by simp)] at HR
    clear HE
    go_enter Tryd.func12, Tryd.ntmps12
    go_wp2_with fail
    refine HP.out.mono ?_
    rintro _ w1 ⟨lv, rfl, hl, hb1⟩
    obtain ⟨a, c, rfl, hv⟩ := hl.view
    have HV := hidM hv
    have HB1 := hidM hb1
    clear hl hv hb1 HP
    obtain ⟨n, hn⟩ : ∃ n, n = ls.length := ⟨_, rfl⟩
    rw [← hn]
    have HL := hidM hn
    have hn7 : n ≤ 70000 := by rw [hn]; exact HLN.out
    clear hn HLN
    go_wp2
    go_loopw [8, 23] (fun v8 v23 wr => ∃ (k : Nat) (path : ByteArray), k ≤ n ∧ v8 = .string path ∧ v23 = .int .i64 (k : Int) ∧ modG (ls.drop k) path.data.toList = R ∧ Below w1.heap.size w1 wr) (fun _ v23 _ => n - (intOf v23).toNat)
    case atStart => exact ⟨0, ⟨#[]⟩, Nat.zero_le _, rfl, rfl, by rw [HR.out]; rfl, Below.refl _ _⟩
    case round =>
      obtain ⟨k, path, hk, rfl, rfl, hd, hbr⟩ := hrel
      have HD := hidM hd
      have HBR := hidM hbr
      clear hd hbr HR
      by_cases hlt : k < n
      · have kk : (k : Int) < (n : Int) := by omega
        have hkl : k < ls.length := by rw [← HL.out]; exact hlt
        obtain ⟨g, off, rfl, hg, hat⟩ := (HV.out.below HBR.out).at hkl
        obtain ⟨na, nc, c0, c1, c2, hw⟩ := hat k hkl
        have HDK : Hid (modG (ls.getD k noL :: ls.drop (k + 1)) path.data.toList = R) := by
          unfold Hid
          rw [← HD.out, List.drop_eq_getElem_cons hkl]
          simp [List.getD, hkl]
        clear hat HD
        generalize ls.getD k noL = L at *
        obtain ⟨verb, words, la⟩ := L
        simp only at c0 c1 c2 hw
        unfold strV at c0
        obtain ⟨V, hV⟩ : ∃ V : ByteArray, V = ⟨verb.toArray⟩ := ⟨_, rfl⟩
        have HVL : Hid (V.toList = verb) := by unfold Hid; rw [hV, Lib.toList_data]
        rw [← hV] at c0
        have hg2 : wr.heap[wr.heap.size]? = none := by simp
        obtain ⟨y0, y1, y2⟩ : (wr.alloc (.cells #[.string V, .slice na words.length nc, .int .i64 (la : Int)] 38)).cell? ⟨wr.heap.size, 0, none⟩ = some (.string V) ∧ (wr.alloc (.cells #[.string V, .slice na words.length nc, .int .i64 (la : Int)] 38)).cell? ⟨wr.heap.size, 1, none⟩ = some (.slice na words.length nc) ∧ (wr.alloc (.cells #[.string V, .slice na words.length nc, .int .i64 (la : Int)] 38)).cell? ⟨wr.heap.size, 2, none⟩ = some (.int .i64 (la : Int)) :=
          ⟨World.cell?_alloc_mark wr _ 38 (0, 0) 0, World.cell?_alloc_mark wr _ 38 (0, 0) 1, World.cell?_alloc_mark wr _ 38 (0, 0) 2⟩
        have HB3 : Hid (Below wr.heap.size wr (wr.alloc (.cells #[.string V, .slice na words.length nc, .int .i64 (la : Int)] 38))) := (Below.refl _ wr).alloc (Nat.le_refl _) _
        have HW3 := hidM (hw.below HB3.out)
        have HB4 := hidM (HBR.out.trans (HB3.out.mono HBR.out.size))
        clear hw hV hg2
        go_upto_region 8 with fail
        generalize wr.alloc (.cells #[.string V, .slice na words.length nc, .int .i64 (la : Int)] 38) = W3 at *
        generalize wr.heap.size = g3 at *
        clear c0 c1 c2
        by_cases hvm : verb = modW
        · have b1 : (V.toList == [109, 111, 100, 117, 108, 101]) = true := by rw [HVL.out, hvm]; rfl
          by_cases hpe : path.data.toList = []
          · have b2 : path.toList.isEmpty = true := by rw [Lib.toList_data, hpe]; rfl
            by_cases hone : words.length = 1
            · obtain ⟨x, hx⟩ : ∃ x, words = [x] := List.length_eq_one_iff.1 hone
              have hw4 := HW3.out
              rw [hx] at hw4
              obtain ⟨g4, o4, c4, h4, _, _, h5⟩ := hw4.cell (by simp)
              have h6 : W3.cell? ⟨g4, o4 + 0, none⟩ = some (.string (mkB x)) := h5 0 (by simp)
              rw [Nat.add_zero] at h6
              have hmk : (mkB x : ByteArray) = ⟨x.toArray⟩ := rfl
              rw [hmk] at h6
              clear hw4 h5
              have HG : Hid (R = if pathL x = true then modG (ls.drop (k + 1)) x else ([], la, 4)) := by
                unfold Hid
                rw [← HDK.out, hpe]
                exact modG_one hvm hx
              obtain ⟨X, hX⟩ : ∃ X : ByteArray, X = ⟨x.toArray⟩ := ⟨_, rfl⟩
              have HXL : Hid (X.data.toList = x) := by unfold Hid; rw [hX]
              rw [← hX] at h6
              have HPA := hidM (rpath_any X W3)
              rw [HXL.out] at HPA
              rw [hone] at y1
              injection h4 with q1 q2 q3
              subst q1
              clear q2 q3
              clear HDK hpe hvm hx hone hX hmk
              cases hpa : pathL x with
              | true =>
                rw [hpa] at HPA HG
                rw [if_pos rfl] at HG
                have HG2 := hidM HG.out
                go_wp2_with fail
                refine HPA.out.mono ?_
                rintro _ w5 ⟨rfl, hb5⟩
                have HB5 := hidM hb5
                have z1 := (hb5.cell (p := ⟨g3, 1, none⟩) (lt_of_cell y1)).trans y1
                have z6 := (hb5.cell (p := ⟨g4, o4, none⟩) (lt_of_cell h6)).trans h6
                have HB6 := hidM (HB4.out.trans (hb5.mono HB4.out.size))
                clear hb5 hpa y0 y1 y2 h6
                go_wp2
                go_roundw
                case rel => exact ⟨k + 1, X, by omega, rfl, by go_num, by rw [HXL.out, HG.out], HB6.out⟩
                case measure => (show n - ((k : Int) + 1).toNat < n - ((k : Int)).toNat); omega
              | false =>
                rw [hpa] at HPA HG
                rw [if_neg (by simp)] at HG
                go_wp2_with fail
                refine HPA.out.mono ?_
                rintro _ w5 ⟨rfl, hb5⟩
                have z2 := (hb5.cell (p := ⟨g3, 2, none⟩) (lt_of_cell y2)).trans y2
                have HB6 := hidM (HB4.out.trans (hb5.mono HB4.out.size))
                clear hb5 hpa y0 y1 y2 h6
                go_wp2_with fail
                go_quiet (fail)
                go_wp2
                go_ret3
                exact ⟨by rw [HG.out]; rfl, below_dn (HB1.out.trans (HB6.out.mono HB1.out.size)) _⟩
            · have HG : Hid (R = ([], la, 4)) := by
                unfold Hid
                rw [← HDK.out, hpe]
                exact modG_many hvm hone
              have b3 : ((words.length : Int) != 1) = true := by simp; omega
              clear HDK hpe hvm hone
              go_wp2_with fail
              go_quiet (fail)
              go_wp2
              go_ret3
              exact ⟨by rw [HG.out]; rfl, below_dn (HB1.out.trans (HB4.out.mono HB1.out.size)) _⟩
          · have b2 : path.toList.isEmpty = false := by rw [Lib.toList_data]; cases h : path.data.toList <;> simp_all
            have HG : Hid (R = ([], la, 8)) := by
              unfold Hid
              rw [← HDK.out]
              exact modG_twice hvm hpe
            clear HDK hvm hpe
            go_wp2_with fail
            go_quiet (fail)
            go_wp2
            go_ret3
            exact ⟨by rw [HG.out]; rfl, below_dn (HB1.out.trans (HB4.out.mono HB1.out.size)) _⟩
        · have b1 : (V.toList == [109, 111, 100, 117, 108, 101]) = false := by rw [HVL.out]; exact beq_false_of_ne hvm
          have HG : Hid (modG (ls.drop (k + 1)) path.data.toList = R) := by
            unfold Hid
            rw [← HDK.out]
            exact (modG_skip hvm).symm
          clear HDK hvm
          go_wp2
          go_roundw
          case rel => exact ⟨k + 1, path, by omega, rfl, by go_num, HG.out, HB4.out⟩
          case measure => (show n - ((k : Int) + 1).toNat < n - ((k : Int)).toNat); omega
      · obtain rfl : k = n := by omega
        have HG : Hid ((if path.data.toList = [] then ([], 0, 7) else (path.data.toList, 0, 0)) = R) := by
          unfold Hid
          rw [← HD.out, List.drop_of_length_le (by rw [← HL.out]; omega), modG]
        have HBF : Hid (Below w.heap.size w wr) := HB1.out.trans (HBR.out.mono HB1.out.size)
        by_cases hpe : path.data.toList = []
        · have b2 : path.toList.isEmpty = true := by rw [Lib.toList_data, hpe]; rfl
          rw [if_pos hpe] at HG
          clear hpe HD
          go_wp2
          go_ret3
          exact ⟨by rw [← HG.out]; rfl, HBF.out⟩
        · have b2 : path.toList.isEmpty = false := by rw [Lib.toList_data]; cases h : path.data.toList <;> simp_all
          rw [if_neg hpe] at HG
          clear hpe HD
          go_wp2
          go_ret3
          exact ⟨by rw [← HG.out]; rfl, HBF.out⟩
  · have h3 : er = 3 := by rcases HE.out with h | h; exact absurd h h0; exact h
    subst h3
    rw [if_pos (by simp)] at HR
    clear HE h0
    go_enter Tryd.func12, Tryd.ntmps12
    go_wp2_with fail
    refine HP.out.mono ?_
    rintro _ w1 ⟨lv, rfl, hl, hb1⟩
    obtain ⟨a, c, rfl, hv⟩ := hl.view
    clear hl hv
    go_wp2
    go_ret3
    exact ⟨by rw [HR.out]; rfl, hb1⟩
end Go.Proofs.YtgkjmmfpbcgmgaaDoor
