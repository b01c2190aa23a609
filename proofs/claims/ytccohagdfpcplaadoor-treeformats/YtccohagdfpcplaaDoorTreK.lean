/-
  TreeLengths, the walk: a folder's bytes are as many as its entries'.
-/
import Derived.Test.YtccohagdfpcplaaDoorTreJ
namespace Go.Proofs.YtccohagdfpcplaaDoor
open Go.RowKit Go.WideMaps Go.Maps

theorem octZ_cnt {m : Int} (h : m ∈ modesL) : (octZ m).length = if m = 16384 then 5 else 6 := by
  simp only [modesL, List.mem_cons, List.not_mem_nil, or_false] at h
  rcases h with rfl | rfl | rfl | rfl | rfl
  · unfold octZ; rw [if_neg (by decide)]; show (octN 16384).length = _; simp [octN]
  · unfold octZ; rw [if_neg (by decide)]; show (octN 33188).length = _; simp [octN]
  · unfold octZ; rw [if_neg (by decide)]; show (octN 33261).length = _; simp [octN]
  · unfold octZ; rw [if_neg (by decide)]; show (octN 40960).length = _; simp [octN]
  · unfold octZ; rw [if_neg (by decide)]; show (octN 57344).length = _; simp [octN]
theorem entL_cnt {e : EntB} (h : rightB e.1 e.2.1.data.toList e.2.2.data.toList = true) : (entL e).length = if e.1 = 16384 then 27 + e.2.1.size else 28 + e.2.1.size := by
  have hs := (entL_len h).2.2.2.1
  unfold rightB at h
  simp only [Bool.and_eq_true, decide_eq_true_eq] at h
  have h4 := octZ_cnt h.1.1
  have h7 : e.2.1.data.toList.length = e.2.1.size := Array.length_toList
  have h8 : e.2.2.data.toList.length = e.2.2.size := Array.length_toList
  unfold entL
  simp only [List.length_append, List.length_cons, List.length_nil, unhexL_len, h7, h8, h4, hs]
  split <;> omega
theorem EntsIn.cells {w : World} {g : Nat} {us : List EntB} (h : EntsIn w (some ⟨g, 0, none⟩) us) {k : Nat} (hk : k < us.length) : w.cell? ⟨g, k * 3, none⟩ = some (.int .i64 (us.getD k noE).1) ∧ w.cell? ⟨g, k * 3 + 1, none⟩ = some (.string (us.getD k noE).2.1) ∧ w.cell? ⟨g, k * 3 + 2, none⟩ = some (.string (us.getD k noE).2.2) := by
  rcases h with rfl | ⟨b, off, he, _, h⟩
  · cases hk
  · cases he
    have := h k hk
    simpa using this
set_option maxHeartbeats 8000000 in
set_option maxRecDepth 100000 in
theorem lengths_walk (v : Value) (es : List EntB) (w : World) (hG : GT w) (hV : EntsV w v es) (hO : ∀ e ∈ es, OkE e) :
    Calls Tryd.prog 7 #[v] w fun e w' => e = .returned (.bool true) ∧ Below w.heap.size w w' := by
  have HFW := hidM (fewE_any v es w hV)
  have HG := hidM hG
  have HO : Hid (∀ e ∈ es.take 600, OkE e) := fun e he => hO e (List.mem_of_mem_take he)
  clear hG hV hO
  generalize es.take 600 = us at *
  go_enter Tryd.func7, Tryd.ntmps7
  go_wp2_with fail
  refine HFW.out.mono ?_
  rintro _ w1 ⟨⟨g, cap, rfl, hg, hcap, hE⟩, hb1⟩
  have HW1 := hidM hb1
  have HG1 := hidM (HG.out.below hb1)
  have HE1 := hidM hE
  have HF := hidM (treeFormat_any (some ⟨g, 0, none⟩) cap us w1 HG1.out hE HO.out)
  clear hb1 hE HFW HO
  obtain ⟨len, hl⟩ : ∃ len, len = us.length := ⟨_, rfl⟩
  rw [← hl] at HF
  rw [← hl]
  have HL := hidM hl
  clear hl
  obtain ⟨T, hT⟩ : ∃ T : ByteArray, T = ⟨(formT us).toArray⟩ := ⟨_, rfl⟩
  rw [← hT] at HF
  by_cases hc : checkV us = 0
  · as_aux_lemma =>
    obtain ⟨h500, hst⟩ := chk_steps hc
    have HST : Hid (∀ i, i < us.length → rightB (us.getD i noE).1 (us.getD i noE).2.1.data.toList (us.getD i noE).2.2.data.toList = true) := fun i hi => step_right (hst i hi)
    have l500 : len ≤ 500 := by have := HL.out; omega
    have HTS : Hid (T.size = (formL (us.take len)).length) := by
      unfold Hid
      rw [hT]
      show (formT us).toArray.size = _
      rw [List.size_toArray, HL.out, List.take_length]
      unfold formT
      rw [if_pos hc]
    rw [hc] at HF
    clear hc h500 hst hT
    go_wp2_with fail
    refine HF.out.mono ?_
    rintro _ w2 ⟨rfl, hb2⟩
    have HE2 := hidM (HE1.out.below hb2)
    have HW2 : Hid (Below w.heap.size w w2) := HW1.out.trans (hb2.mono HW1.out.size)
    have hg2 : w.heap.size ≤ w2.heap.size := HW2.out.size
    clear hb2 HF HE1 HW1 hcap hg
    go_wp2
    go_loopw [5, 7, 24] (fun nv _ iv wr => ∃ k : Nat, k ≤ len ∧ iv = .int .i64 (k : Int) ∧ nv = .int .i64 ((formL (us.take k)).length : Int) ∧ Below w2.heap.size w2 wr) (fun _ _ i _ => len - (intOf i).toNat)
    case atStart => exact ⟨0, Nat.zero_le _, rfl, rfl, Below.refl _ _⟩
    case round =>
      obtain ⟨k, hk, rfl, rfl, hbr⟩ := hrel
      have HBR := hidM hbr
      clear hbr
      have hfl := form_len HST.out k (by have := HL.out; omega)
      by_cases hlt : k < len
      · as_aux_lemma =>
        have gk : (k : Int) < (len : Int) := by omega
        have hku : k < us.length := by rw [← HL.out]; exact hlt
        obtain ⟨c0, c1, c2⟩ := (HE2.out.below HBR.out).cells hku
        have hri := HST.out k hku
        obtain ⟨_, _, len2, _, _⟩ := entL_len hri
        have hcn := entL_cnt hri
        have hnx : (formL (us.take (k + 1))).length = (formL (us.take k)).length + (entL (us.getD k noE)).length := by rw [form_next hku, List.length_append]
        rw [hcn] at hnx
        generalize (formL (us.take k)).length = N at *
        have HNX := hidM hnx
        clear hri hcn hnx
        generalize (us.getD k noE).1 = m at *
        generalize (us.getD k noE).2.1 = nm at *
        generalize (us.getD k noE).2.2 = id at *
        have HX0 : Hid (EBox (wr.alloc (.cells #[.int .i64 m, .string nm, .string id] 29)) wr.heap.size m nm id) := heap_alloc_new wr _
        have x0 := HX0.out.c0
        have x1 := HX0.out.c1
        have hz29 := zero29
        have HB3 : Hid (Below w2.heap.size w2 (wr.alloc (.cells #[.int .i64 m, .string nm, .string id] 29))) := HBR.out.alloc HBR.out.size _
        by_cases hm : m = 16384
        · have hmb : (m == 16384) = true := by simp [hm]
          have hnx := HNX.out
          rw [if_pos hm] at hnx
          clear hm
          go_wp2
          go_roundw
          case rel => exact ⟨k + 1, hlt, by go_num, by rw [hnx]; go_num, HB3.out⟩
          case measure => simp [intOf]; omega
        · have hmb : (m == 16384) = false := by simp [hm]
          have hnx := HNX.out
          rw [if_neg hm] at hnx
          clear hm
          go_wp2
          go_roundw
          case rel => exact ⟨k + 1, hlt, by go_num, by rw [hnx]; go_num, HB3.out⟩
          case measure => simp [intOf]; omega
      · as_aux_lemma =>
        have gk : ¬ (k : Int) < (len : Int) := by omega
        obtain rfl : k = len := by omega
        have hts : (formL (us.take k)).length = T.size := HTS.out.symm
        have HWR : Hid (Below w.heap.size w wr) := HW2.out.trans (HBR.out.mono hg2)
        have HGR := hidM (HG.out.below HWR.out)
        rw [hts]
        rw [hts] at hfl
        clear hts
        go_wp2_with fail
        refine (awake_any wr HGR.out).mono ?_
        rintro _ w3 ⟨rfl, hb3⟩
        have HB3 : Hid (Below w.heap.size w w3) := HWR.out.trans (hb3.mono HWR.out.size)
        clear hb3
        go_wp2
        go_ret
        exact ⟨rfl, HB3.out⟩
  · as_aux_lemma =>
    have hT0 : T = ⟨#[]⟩ := by rw [hT]; unfold formT; rw [if_neg hc]
    subst hT0
    clear hT
    generalize checkV us = z at *
    have hzb : (z != 0) = true := by simp [hc]
    have hzb2 : (z == 0) = false := by simp [hc]
    go_wp2_with fail
    refine HF.out.mono ?_
    rintro _ w2 ⟨rfl, hb2⟩
    have HW2 : Hid (Below w.heap.size w w2) := HW1.out.trans (hb2.mono HW1.out.size)
    have HG2 := hidM (HG.out.below HW2.out)
    clear hb2 HF HE1 HW1 hcap hg
    go_wp2_with fail
    refine (awake_any w2 HG2.out).mono ?_
    rintro _ w3 ⟨rfl, hb3⟩
    have HB3 : Hid (Below w.heap.size w w3) := HW2.out.trans (hb3.mono HW2.out.size)
    clear hb3
    go_wp2
    go_ret
    exact ⟨rfl, HB3.out⟩
end Go.Proofs.YtccohagdfpcplaaDoor
