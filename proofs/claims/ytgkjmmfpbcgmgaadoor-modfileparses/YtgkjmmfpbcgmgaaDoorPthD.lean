/-
  Module files: FilePath, Module, and what the document fixes.
-/
import Derived.Test.YtgkjmmfpbcgmgaaDoorPthC
import Derived.Test.YtgkjmmfpbcgmgaaDoorLexF
import Derived.Test.YtgkjmmfpbcgmgaaDoorMfN
namespace Go.Proofs.YtgkjmmfpbcgmgaaDoor
open Go.RowKit

theorem bar_list : (⟨#[34, 39, 42, 60, 62, 63, 96, 124, 92, 58, 59]⟩ : ByteArray).data.toList = barL := rfl
set_option maxHeartbeats 1000000 in
theorem filePath_any (s : ByteArray) (m : Int) (w : World) (hm : w.cell? ⟨0, 0, none⟩ = some (.int .i64 m)) :
    Calls Tryd.prog 17 #[.string s] w fun e w' => e = .returned (.bool (fileL s.data.toList)) ∧ Below w.heap.size w w' := by
  have HC := hidM (clean_any s w)
  rw [clean_eq] at HC
  have HR : Hid (fileL s.data.toList = (cleanL s.data.toList && !(s.data.toList.any fun c => barL.contains c) && !stopL s.data.toList)) := rfl
  cases h0 : cleanL s.data.toList with
  | false =>
    rw [h0] at HC HR
    clear h0
    go_enter Tryd.func17, Tryd.ntmps17
    go_wp2_with fail
    refine HC.out.mono ?_
    rintro _ w1 ⟨rfl, hb⟩
    go_wp2
    go_ret
    exact ⟨by rw [HR.out]; rfl, hb⟩
  | true =>
    have hs : s.size ≤ 200 := by
      unfold cleanL at h0
      simp only [Bool.and_eq_true, decide_eq_true_eq] at h0
      rw [sl_len] at h0; exact h0.1.1
    have HAS : Hid (∀ (j : Nat) b, s.data.toList[j]? = some b → b.toNat < 128) := by
      intro j b hj
      unfold cleanL plainL at h0
      simp only [Bool.and_eq_true, List.all_eq_true, decide_eq_true_eq] at h0
      have := h0.1.2 b (List.mem_of_getElem? hj)
      omega
    have HAN : Hid (∀ V, Calls Tryd.prog 33 #[.string s, .string ⟨#[34, 39, 42, 60, 62, 63, 96, 124, 92, 58, 59]⟩] V fun e w' => e = .returned (.bool (s.data.toList.any fun c => barL.contains c)) ∧ Below V.heap.size V w') := by
      intro V
      have h := Tryd.strings_ContainsAny_laid s ⟨#[34, 39, 42, 60, 62, 63, 96, 124, 92, 58, 59]⟩ V (by omega) (by decide) HAS.out (by
        intro j b hj
        rw [bar_list] at hj
        have hm := List.mem_of_getElem? hj
        simp only [barL, List.mem_cons, List.not_mem_nil, or_false] at hm
        rcases hm with rfl | rfl | rfl | rfl | rfl | rfl | rfl | rfl | rfl | rfl | rfl <;> decide)
      rw [bar_list, any_cont] at h
      exact h
    obtain ⟨S, hS⟩ : ∃ S, s ++ (⟨#[47]⟩ : ByteArray) = S := ⟨_, rfl⟩
    have HCO : Hid (∀ V, V.cell? ⟨0, 0, none⟩ = some (.int .i64 m) → Calls Tryd.prog 34 #[.string S, .string ⟨#[46, 47]⟩] V fun e w' => e = .returned (.bool (stopL s.data.toList)) ∧ w' = V) := by
      intro V hV
      have h := Tryd.strings_Contains S ⟨#[46, 47]⟩ m V (by rw [← hS, ByteArray.size_append]; have : (⟨#[47]⟩ : ByteArray).size = 1 := rfl; omega) hV
      rw [show (⟨#[46, 47]⟩ : ByteArray).data.toList = [46, 47] from rfl, show S.data.toList = s.data.toList ++ [47] by rw [← hS]; simp, cont_stop] at h
      exact h
    have hsum : ¬ (9223372036854775807 : Nat) < s.size + 1 := by omega
    have h0lt : 0 < w.heap.size := by
      rcases Nat.lt_or_ge 0 w.heap.size with h | h
      · exact h
      · unfold World.cell? at hm
        rw [Array.getElem?_eq_none (by simpa using h)] at hm
        cases hm
    rw [h0] at HC HR
    clear h0 HAS
    generalize (s.data.toList.any fun c => barL.contains c) = A at *
    generalize stopL s.data.toList = B at *
    have HM := hidM hm
    clear hm
    cases A with
    | true =>
      go_enter Tryd.func17, Tryd.ntmps17
      go_wp2_with fail
      refine HC.out.mono ?_
      rintro _ w1 ⟨rfl, hb⟩
      go_wp2_with fail
      refine (HAN.out _).mono ?_
      rintro _ w2 ⟨rfl, hb2⟩
      go_wp2
      go_ret
      exact ⟨by rw [HR.out]; rfl, hb.trans (hb2.mono hb.size)⟩
    | false =>
      go_enter Tryd.func17, Tryd.ntmps17
      go_wp2_with fail
      refine HC.out.mono ?_
      rintro _ w1 ⟨rfl, hb⟩
      go_wp2_with fail
      refine (HAN.out _).mono ?_
      rintro _ w2 ⟨rfl, hb2⟩
      have hb3 := hb.trans (hb2.mono hb.size)
      have HM2 : Hid (w2.cell? ⟨0, 0, none⟩ = some (.int .i64 m)) := (hb3.cell (p := ⟨0, 0, none⟩) h0lt).trans HM.out
      go_wp2_with fail
      refine (HCO.out _ HM2.out).mono ?_
      rintro _ w3 ⟨rfl, h3⟩
      rw [h3]
      clear h3
      go_wp2
      go_ret
      exact ⟨by rw [HR.out]; rfl, hb3⟩

/-! ## Module -/
def noL : Ln := ([], [], 0)
theorem flatL_get : ∀ (ls : List Ln) (wvs : List Value) (i : Nat), i < ls.length → wvs.length = ls.length → (flatL ls wvs)[i * 3]? = some (strV (ls.getD i noL).1) ∧ (flatL ls wvs)[i * 3 + 1]? = some (wvs.getD i undef) ∧ (flatL ls wvs)[i * 3 + 2]? = some (.int .i64 ((ls.getD i noL).2.2 : Int))
  | [], _, i, h, _ => by simp at h
  | l :: ls, [], i, _, h2 => by simp at h2
  | l :: ls, v :: wvs, 0, _, _ => by simp [flatL]
  | l :: ls, v :: wvs, i + 1, h, h2 => by
    have ih := flatL_get ls wvs i (by simpa using h) (by simpa using h2)
    have e : flatL (l :: ls) (v :: wvs) = strV l.1 :: v :: .int .i64 (l.2.2 : Int) :: flatL ls wvs := by simp [flatL]
    rw [e, show (i + 1) * 3 = i * 3 + 3 by omega, show i * 3 + 3 + 1 = i * 3 + 1 + 3 by omega, show i * 3 + 3 + 2 = i * 3 + 2 + 3 by omega]
    simpa using ih
/-- the lines as a walk reads them -/
def LnsAt (w : World) (g off : Nat) (ls : List Ln) : Prop := ∀ i, i < ls.length → ∃ na nc, w.cell? ⟨g, off + i * 3, none⟩ = some (strV (ls.getD i noL).1) ∧ w.cell? ⟨g, off + i * 3 + 1, none⟩ = some (.slice na (ls.getD i noL).2.1.length nc) ∧
  w.cell? ⟨g, off + i * 3 + 2, none⟩ = some (.int .i64 ((ls.getD i noL).2.2 : Int)) ∧ OwnW w 0 (.slice na (ls.getD i noL).2.1.length nc) (ls.getD i noL).2.1
def LinesV (w : World) (a : Option Addr) (ls : List Ln) : Prop := ls = [] ∨ ∃ g off, a = some ⟨g, off, none⟩ ∧ g < w.heap.size ∧ LnsAt w g off ls
theorem LinesAt.view {w : World} {base : Nat} {lv : Value} {ls : List Ln} (h : LinesAt w base lv ls) : ∃ a c, lv = .slice a ls.length c ∧ LinesV w a ls := by
  obtain ⟨wvs, h1, h2, h3⟩ := h
  rcases h1.2 with ⟨rfl, hn⟩ | ⟨g, cap, cur, rfl, hB, hg, hnc, hcm, hcs, htk⟩
  · exact ⟨none, 0, by rw [hn], .inl (List.length_eq_zero_iff.1 hn)⟩
  · refine ⟨_, _, rfl, .inr ⟨g, 0, rfl, lt_of_some hg, fun i hi => ?_⟩⟩
    obtain ⟨f0, f1, f2⟩ := flatL_get ls wvs i hi h2
    have hw : OwnW w 0 (wvs.getD i undef) (ls.getD i noL).2.1 := h3 i hi
    obtain ⟨na, nc, hv⟩ := hw.isSlice
    rw [hv] at f1 hw
    have hadd : ∀ j, (⟨g, 0, none⟩ : Addr).add j = ⟨g, j, none⟩ := fun j => by unfold Addr.add; split <;> simp_all
    refine ⟨na, nc, ?_, ?_, ?_, hw⟩
    · have := World.ownsRow.cells (g := g) h1 rfl _ _ f0; rw [hadd] at this; simpa using this
    · have := World.ownsRow.cells (g := g) h1 rfl _ _ f1; rw [hadd] at this; simpa using this
    · have := World.ownsRow.cells (g := g) h1 rfl _ _ f2; rw [hadd] at this; simpa using this
theorem LinesV.below {w w' : World} {a : Option Addr} {ls : List Ln} (h : LinesV w a ls) (hb : Below w.heap.size w w') : LinesV w' a ls := by
  rcases h with h | ⟨g, off, h1, h2, h3⟩
  · exact .inl h
  · refine .inr ⟨g, off, h1, Nat.lt_of_lt_of_le h2 hb.size, fun i hi => ?_⟩
    obtain ⟨na, nc, c0, c1, c2, hw⟩ := h3 i hi
    exact ⟨na, nc, (hb.cell (p := ⟨g, _, none⟩) h2).trans c0, (hb.cell (p := ⟨g, _, none⟩) h2).trans c1, (hb.cell (p := ⟨g, _, none⟩) h2).trans c2, ownW_below hw hb (Nat.le_refl _)⟩
theorem LinesV.at {w : World} {a : Option Addr} {ls : List Ln} (h : LinesV w a ls) {k : Nat} (hk : k < ls.length) : ∃ g off, a = some ⟨g, off, none⟩ ∧ g < w.heap.size ∧ LnsAt w g off ls := by
  rcases h with h | h
  · rw [h] at hk; simp at hk
  · exact h
theorem below_dn {B : Nat} {w w' : World} (h : Below B w w') (n : Nat) : Below B w (w'.drewN n) := h.trans ⟨rfl, rfl, rfl, by simp, fun k _ => by simp⟩
theorem lt_of_cell {w : World} {p : Addr} {v : Value} (h : w.cell? p = some v) : p.block < w.heap.size := by
  rcases Nat.lt_or_ge p.block w.heap.size with h1 | h1
  · exact h1
  · unfold World.cell? at h
    rw [Array.getElem?_eq_none (by simpa using h1)] at h
    cases h
theorem par_len : ∀ (f : Nat) (l blk : List UInt8) (out : List Ln) (k : Nat), l.length < f → (parG f l blk out k).1.length ≤ out.length + l.length + 1
  | 0, l, _, _, _, h => absurd h (by omega)
  | f + 1, l, blk, out, k, hf => by
    cases hr : rowL l with
    | none => rw [parG_none hf hr]; simp
    | some r =>
      obtain ⟨ws, b, last, t⟩ := r
      cases ht : takeD blk ws b k with
      | none => rw [parG_bad hf hr ht]; simp
      | some y =>
        obtain ⟨blk', x⟩ := y
        have hx := take_len ht
        cases last with
        | true =>
          rw [parG_last hf hr ht]
          split
          · simp; omega
          · simp
        | false =>
          obtain ⟨h1, h2, h3⟩ := parG_next (out := out) hf hr ht
          rw [h1]
          have := par_len f t blk' (out ++ x) (k + 1) (by simpa using h2)
          simp at this ⊢
          omega
def modW : List UInt8 := [109, 111, 100, 117, 108, 101]
def modG : List Ln → List UInt8 → List UInt8 × Nat × Nat
  | [], path => if path = [] then ([], 0, 7) else (path, 0, 0)
  | l :: r, path => if l.1 ≠ modW then modG r path else if path ≠ [] then ([], l.2.2, 8) else
    match l.2.1 with
    | [x] => if pathL x = true then modG r x else ([], l.2.2, 4)
    | _ => ([], l.2.2, 4)
def modL (s : List UInt8) : List UInt8 × Nat × Nat := if (parL s).2.2 ≠ 0 then ([], (parL s).2.1, (parL s).2.2) else modG (parL s).1 []
theorem modG_skip {l : Ln} {r : List Ln} {path : List UInt8} (h : l.1 ≠ modW) : modG (l :: r) path = modG r path := by rw [modG, if_pos h]
theorem modG_twice {l : Ln} {r : List Ln} {path : List UInt8} (h : l.1 = modW) (hp : path ≠ []) : modG (l :: r) path = ([], l.2.2, 8) := by rw [modG, if_neg (by simpa using h), if_pos hp]
theorem modG_many {l : Ln} {r : List Ln} (h : l.1 = modW) (hp : l.2.1.length ≠ 1) : modG (l :: r) [] = ([], l.2.2, 4) := by
  rw [modG, if_neg (by simpa using h), if_neg (by simp)]
  split
  · rename_i x hx; rw [hx] at hp; simp at hp
  · rfl
theorem modG_one {l : Ln} {r : List Ln} {x : List UInt8} (h : l.1 = modW) (hp : l.2.1 = [x]) : modG (l :: r) [] = if pathL x = true then modG r x else ([], l.2.2, 4) := by
  rw [modG, if_neg (by simpa using h), if_neg (by simp), hp]
theorem path_ne {x : List UInt8} (h : pathL x = true) : x ≠ [] := by
  rintro rfl
  exact absurd h (by decide)
theorem zero37b : (Tryd.prog.info? 37).map (·.size) = some 3 := by kernel_rfl
def ModQ (R : List UInt8 × Nat × Nat) (w : World) (e : Ending) (w' : World) : Prop := e = .returned (.tuple #[.string ⟨R.1.toArray⟩, .int .i64 (R.2.1 : Int), .int .i64 (R.2.2 : Int)]) ∧ Below w.heap.size w w'
set_option maxHeartbeats 4000000 in
set_option maxRecDepth 100000 in
theorem module_any (s : ByteArray) (w : World) (hs : s.size ≤ 65536) :
    Calls Tryd.prog 11 #[.string s] w fun e w' => ModQ (modL s.data.toList) w e w' := by
  have HP := hidM (parse_any s w hs)
  unfold ParPost at HP
  have HE : Hid ((parL s.data.toList).2.2 = 0 ∨ (parL s.data.toList).2.2 = 3) := by
    have := par_err (s.data.toList.length + 1) s.data.toList [] [] 1 (Nat.lt_succ_self _)
    unfold parL
    rcases this with h | h
    · exact .inl h.1
    · exact .inr h.1
  have HR : Hid (modL s.data.toList = if (parL s.data.toList).2.2 ≠ 0 then ([], (parL s.data.toList).2.1, (parL s.data.toList).2.2) else modG (parL s.data.toList).1 []) := rfl
  have HLN : Hid ((parL s.data.toList).1.length ≤ 70000) := by
    have := par_len (s.data.toList.length + 1) s.data.toList [] [] 1 (Nat.lt_succ_self _)
    unfold Hid parL
    rw [sl_len] at *
    simp at this
    omega
  generalize modL s.data.toList = R at *
  generalize parL s.data.toList = P at *
  obtain ⟨ls, at_, er⟩ := P
  simp only at HP HE HR HLN
  by_cases h0 : er = 0
  · subst h0
    rw [if_neg (by simp)] at HR
    clear HE
    go_enter Tryd.func11, Tryd.ntmps11
    go_wp2_with fail
    refine HP.out.mono ?_
    rintro _ w1 ⟨lv, rfl, hl, hb1⟩
    obtain ⟨a, c, rfl, hv⟩ := hl.view
    have HV := hidM hv
    have HB1 := hidM hb1
    clear hl hv hb1 HP
    obtain ⟨n, hn⟩ : ∃ n, n = ls.length := ⟨_, rfl⟩
    rw [← hn]
    have HL := hidM hn
    have hn7 : n ≤ 70000 := by rw [hn]; exact HLN.out
    clear hn HLN
    go_wp2
    go_loopw [2, 7, 20, 21, 22, 23, 24, 25, 26, 27, 28, 29, 30, 31, 32, 33, 34, 35, 36, 37, 38, 39, 40, 41, 42, 43, 44, 45, 46, 47, 48, 49] (fun v2 _ v20 _ _ _ _ _ _ _ _ _ _ _ _ _ _ _ _ _ _ _ _ _ _ _ _ _ _ _ _ _ wr => ∃ (k : Nat) (path : ByteArray), k ≤ n ∧ v2 = .string path ∧ v20 = .int .i64 (k : Int) ∧ modG (ls.drop k) path.data.toList = R ∧ Below w1.heap.size w1 wr) (fun _ _ v20 _ _ _ _ _ _ _ _ _ _ _ _ _ _ _ _ _ _ _ _ _ _ _ _ _ _ _ _ _ _ => n - (intOf v20).toNat)
    case atStart => exact ⟨0, ⟨#[]⟩, Nat.zero_le _, rfl, rfl, by rw [HR.out]; rfl, Below.refl _ _⟩
    case round =>
      obtain ⟨k, path, hk, rfl, rfl, hd, hbr⟩ := hrel
      have HD := hidM hd
      have HBR := hidM hbr
      clear hd hbr HR
      by_cases hlt : k < n
      · have kk : (k : Int) < (n : Int) := by omega
        have hkl : k < ls.length := by rw [← HL.out]; exact hlt
        obtain ⟨g, off, rfl, hg, hat⟩ := (HV.out.below HBR.out).at hkl
        obtain ⟨na, nc, c0, c1, c2, hw⟩ := hat k hkl
        have HDK : Hid (modG (ls.getD k noL :: ls.drop (k + 1)) path.data.toList = R) := by
          unfold Hid
          rw [← HD.out, List.drop_eq_getElem_cons hkl]
          simp [List.getD, hkl]
        clear hat HD
        generalize ls.getD k noL = L at *
        obtain ⟨verb, words, la⟩ := L
        simp only at c0 c1 c2 hw
        unfold strV at c0
        obtain ⟨V, hV⟩ : ∃ V : ByteArray, V = ⟨verb.toArray⟩ := ⟨_, rfl⟩
        have HVL : Hid (V.toList = verb) := by unfold Hid; rw [hV, Lib.toList_data]
        rw [← hV] at c0
        have hg2 : wr.heap[wr.heap.size]? = none := by simp
        obtain ⟨y0, y1, y2⟩ : (wr.alloc (.cells #[.string V, .slice na words.length nc, .int .i64 (la : Int)] 37)).cell? ⟨wr.heap.size, 0, none⟩ = some (.string V) ∧ (wr.alloc (.cells #[.string V, .slice na words.length nc, .int .i64 (la : Int)] 37)).cell? ⟨wr.heap.size, 1, none⟩ = some (.slice na words.length nc) ∧ (wr.alloc (.cells #[.string V, .slice na words.length nc, .int .i64 (la : Int)] 37)).cell? ⟨wr.heap.size, 2, none⟩ = some (.int .i64 (la : Int)) :=
          ⟨World.cell?_alloc_mark wr _ 37 (0, 0) 0, World.cell?_alloc_mark wr _ 37 (0, 0) 1, World.cell?_alloc_mark wr _ 37 (0, 0) 2⟩
        have HB3 : Hid (Below wr.heap.size wr (wr.alloc (.cells #[.string V, .slice na words.length nc, .int .i64 (la : Int)] 37))) := (Below.refl _ wr).alloc (Nat.le_refl _) _
        have HW3 := hidM (ownW_below hw HB3.out (Nat.le_refl _))
        have HB4 := hidM (HBR.out.trans (HB3.out.mono HBR.out.size))
        clear hw hV hg2
        go_upto_region 7 with fail
        generalize wr.alloc (.cells #[.string V, .slice na words.length nc, .int .i64 (la : Int)] 37) = W3 at *
        generalize wr.heap.size = g3 at *
        clear c0 c1 c2
        by_cases hvm : verb = modW
        · have b1 : (V.toList == [109, 111, 100, 117, 108, 101]) = true := by rw [HVL.out, hvm]; rfl
          by_cases hpe : path.data.toList = []
          · have b2 : path.toList.isEmpty = true := by rw [Lib.toList_data, hpe]; rfl
            by_cases hone : words.length = 1
            · obtain ⟨x, hx⟩ : ∃ x, words = [x] := List.length_eq_one_iff.1 hone
              obtain ⟨g4, c4, h4, h5, _⟩ := HW3.out.cellAt (by rw [hone]; omega)
              have h6 := h5 0 (by omega)
              have h7 : words[0] = x := by simp [hx]
              rw [h7] at h6
              unfold strV at h6
              have HG : Hid (R = if pathL x = true then modG (ls.drop (k + 1)) x else ([], la, 4)) := by
                unfold Hid
                rw [← HDK.out, hpe]
                exact modG_one hvm hx
              obtain ⟨X, hX⟩ : ∃ X : ByteArray, X = ⟨x.toArray⟩ := ⟨_, rfl⟩
              have HXL : Hid (X.data.toList = x) := by unfold Hid; rw [hX]
              rw [← hX] at h6
              have HPA := hidM (path_any X W3)
              rw [HXL.out] at HPA
              rw [hone] at y1 h4
              injection h4 with q1 q2 q3
              subst q1 q3
              clear HDK hpe hvm hx h5 h7 hone hX
              cases hpa : pathL x with
              | true =>
                rw [hpa] at HPA HG
                rw [if_pos rfl] at HG
                have HG2 := hidM HG.out
                go_wp2_with fail
                refine HPA.out.mono ?_
                rintro _ w5 ⟨rfl, hb5⟩
                have HB5 := hidM hb5
                have z1 := (hb5.cell (p := ⟨g3, 1, none⟩) (lt_of_cell y1)).trans y1
                have z6 := (hb5.cell (p := ⟨g4, 0, none⟩) (lt_of_cell h6)).trans h6
                have HB6 := hidM (HB4.out.trans (hb5.mono HB4.out.size))
                clear hb5 hpa y0 y1 y2 h6
                go_wp2
                go_roundw
                case rel => exact ⟨k + 1, X, by omega, rfl, by go_num, by rw [HXL.out, HG.out], HB6.out⟩
                case measure => (show n - ((k : Int) + 1).toNat < n - ((k : Int)).toNat); omega
              | false =>
                rw [hpa] at HPA HG
                rw [if_neg (by simp)] at HG
                go_wp2_with fail
                refine HPA.out.mono ?_
                rintro _ w5 ⟨rfl, hb5⟩
                have z2 := (hb5.cell (p := ⟨g3, 2, none⟩) (lt_of_cell y2)).trans y2
                have HB6 := hidM (HB4.out.trans (hb5.mono HB4.out.size))
                clear hb5 hpa y0 y1 y2 h6
                go_wp2_with fail
                go_quiet (fail)
                go_wp2
                go_ret3
                exact ⟨by rw [HG.out]; rfl, below_dn (HB1.out.trans (HB6.out.mono HB1.out.size)) _⟩
            · have HG : Hid (R = ([], la, 4)) := by
                unfold Hid
                rw [← HDK.out, hpe]
                exact modG_many hvm hone
              have b3 : ((words.length : Int) != 1) = true := by simp; omega
              clear HDK hpe hvm hone
              go_wp2_with fail
              go_quiet (fail)
              go_wp2
              go_ret3
              exact ⟨by rw [HG.out]; rfl, below_dn (HB1.out.trans (HB4.out.mono HB1.out.size)) _⟩
          · have b2 : path.toList.isEmpty = false := by rw [Lib.toList_data]; cases h : path.data.toList <;> simp_all
            have HG : Hid (R = ([], la, 8)) := by
              unfold Hid
              rw [← HDK.out]
              exact modG_twice hvm hpe
            clear HDK hvm hpe
            go_wp2_with fail
            go_quiet (fail)
            go_wp2
            go_ret3
            exact ⟨by rw [HG.out]; rfl, below_dn (HB1.out.trans (HB4.out.mono HB1.out.size)) _⟩
        · have b1 : (V.toList == [109, 111, 100, 117, 108, 101]) = false := by rw [HVL.out]; exact beq_false_of_ne hvm
          have HG : Hid (modG (ls.drop (k + 1)) path.data.toList = R) := by
            unfold Hid
            rw [← HDK.out]
            exact (modG_skip hvm).symm
          clear HDK hvm
          go_wp2
          go_roundw
          case rel => exact ⟨k + 1, path, by omega, rfl, by go_num, HG.out, HB4.out⟩
          case measure => (show n - ((k : Int) + 1).toNat < n - ((k : Int)).toNat); omega
      · obtain rfl : k = n := by omega
        have HG : Hid ((if path.data.toList = [] then ([], 0, 7) else (path.data.toList, 0, 0)) = R) := by
          unfold Hid
          rw [← HD.out, List.drop_of_length_le (by rw [← HL.out]; omega), modG]
        have HBF : Hid (Below w.heap.size w wr) := HB1.out.trans (HBR.out.mono HB1.out.size)
        by_cases hpe : path.data.toList = []
        · have b2 : path.toList.isEmpty = true := by rw [Lib.toList_data, hpe]; rfl
          rw [if_pos hpe] at HG
          clear hpe HD
          go_wp2
          go_ret3
          exact ⟨by rw [← HG.out]; rfl, HBF.out⟩
        · have b2 : path.toList.isEmpty = false := by rw [Lib.toList_data]; cases h : path.data.toList <;> simp_all
          rw [if_neg hpe] at HG
          clear hpe HD
          go_wp2
          go_ret3
          exact ⟨by rw [← HG.out]; rfl, HBF.out⟩
  · have h3 : er = 3 := by rcases HE.out with h | h; exact absurd h h0; exact h
    subst h3
    rw [if_pos (by simp)] at HR
    clear HE h0
    go_enter Tryd.func11, Tryd.ntmps11
    go_wp2_with fail
    refine HP.out.mono ?_
    rintro _ w1 ⟨lv, rfl, hl, hb1⟩
    obtain ⟨a, c, rfl, hv⟩ := hl.view
    clear hl hv
    go_wp2
    go_ret3
    exact ⟨by rw [HR.out]; rfl, hb1⟩
end Go.Proofs.YtgkjmmfpbcgmgaaDoor
