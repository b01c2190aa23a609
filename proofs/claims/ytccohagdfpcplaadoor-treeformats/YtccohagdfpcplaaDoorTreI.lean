/-
  Walks of tree: Format of any entries; the law's awake.
-/
import Derived.Test.YtccohagdfpcplaaDoorTreH
namespace Go.Proofs.YtccohagdfpcplaaDoor
open Go.RowKit Go.WideMaps Go.Maps

/-- what Format says -/
def formT (es : List EntB) : List UInt8 := if checkV es = 0 then formL es else []
theorem checkV_cases (es : List EntB) : checkV es = 0 ∨ checkV es = 2 ∨ checkV es = 4 := by
  unfold checkV checkZ
  split
  · exact .inr (.inl rfl)
  · split
    · exact .inl rfl
    · exact .inr (.inr rfl)
set_option maxHeartbeats 1000000 in
set_option maxRecDepth 100000 in
theorem format_bad (a : Option Addr) (cap : Nat) (es : List EntB) (w : World) (hG : GT w) (hE : EntsIn w a es) (hO : ∀ e ∈ es, OkE e) (hc : checkV es ≠ 0) :
    Calls Tryd.prog 10 #[.slice a es.length cap] w fun e w' => e = .returned (.tuple #[.string ⟨#[]⟩, .int .i64 (checkV es)]) ∧ Below w.heap.size w w' := by
  have HCK := hidM (check_any a cap es w hG hE hO)
  have e0 : (checkV es == 0) = false := by simp; exact hc
  clear hG hE hO hc
  generalize checkV es = c at *
  generalize es.length = len at *
  go_enter Tryd.func10, Tryd.ntmps10
  go_wp2_with fail
  refine HCK.out.mono ?_
  rintro _ w1 ⟨rfl, hb1⟩
  have HB := hidM hb1
  clear hb1 HCK
  go_wp2
  go_ret2
  exact ⟨rfl, HB.out⟩
set_option maxHeartbeats 1000000 in
set_option maxRecDepth 100000 in
theorem format_nil (a : Option Addr) (cap : Nat) (w : World) :
    Calls Tryd.prog 10 #[.slice a 0 cap] w fun e w' => e = .returned (.tuple #[.string ⟨#[]⟩, .int .i64 0]) ∧ Below w.heap.size w w' := by
  have hz := zero49
  go_enter Tryd.func10, Tryd.ntmps10
  go_wp2_with fail
  refine (check_nil a cap w).mono ?_
  rintro _ w1 ⟨rfl, hb1⟩
  have HB := hidM hb1
  have HF0 : Hid (Lib.IsBuilder 49 5 w1.heap.size w1.heap.size (Lib.byteCells []) (w1.alloc (.cells #[.pointer none, .slice none 0 0] 49))) := Lib.fresh_isBuilder 49 5 w1
  have HB0 : Hid (Below w1.heap.size w1 (w1.alloc (.cells #[.pointer none, .slice none 0 0] 49))) := (Below.refl _ w1).alloc (Nat.le_refl _) _
  have HS := hidM (Tryd.Builder_String_any w1.heap.size w1.heap.size [] _ HF0.out HB0.out.size)
  clear hb1
  go_wp2
  refine wp_loop_rounds 1 ?_
  rw [rounds_succ]
  go_wp2_with fail
  refine HS.out.mono ?_
  rintro _ w3 ⟨rfl, hb3⟩
  have HB3 : Hid (Below w.heap.size w w3) := HB.out.trans ((HB0.out.trans hb3).mono HB.out.size)
  clear hb3 HS
  go_wp2
  go_ret2
  exact ⟨rfl, HB3.out⟩
theorem treeFormat_any (a : Option Addr) (cap : Nat) (es : List EntB) (w : World) (hG : GT w) (hE : EntsIn w a es) (hO : ∀ e ∈ es, OkE e) :
    Calls Tryd.prog 10 #[.slice a es.length cap] w fun e w' => e = .returned (.tuple #[.string ⟨(formT es).toArray⟩, .int .i64 (checkV es)]) ∧ Below w.heap.size w w' := by
  by_cases hc : checkV es = 0
  · have hf : formT es = formL es := by unfold formT; rw [if_pos hc]
    rw [hf, hc]
    rcases hE with rfl | ⟨b, off, rfl, h1, h2⟩
    · exact format_nil a cap w
    · exact format_good b off cap es.length es w hG rfl h1 h2 hO hc
  · have hf : formT es = [] := by unfold formT; rw [if_neg hc]
    rw [hf]
    exact format_bad a cap es w hG hE hO hc
/-- the law's own name -/
def idS : ByteArray := ⟨#[101, 54, 57, 100, 101, 50, 57, 98, 98, 50, 100, 49, 100, 54, 52, 51, 52, 98, 56, 98, 50, 57, 97, 101, 55, 55, 53, 97, 100, 56, 99, 50, 101, 52, 56, 99, 53, 51, 57, 49]⟩
def twoE : List EntB := [(33188, ⟨#[97, 46, 98]⟩, idS), (16384, ⟨#[97]⟩, idS)]
theorem idS_ok : idB idS.data.toList = true := by decide +kernel
theorem two_ok : checkV twoE = 0 := by decide +kernel
theorem oct_plain : octZ 33188 = [49, 48, 48, 54, 52, 52] := by
  unfold octZ
  rw [if_neg (by decide)]
  show octN 33188 = _
  simp [octN]
theorem oct_folder : octZ 16384 = [52, 48, 48, 48, 48] := by
  unfold octZ
  rw [if_neg (by decide)]
  show octN 16384 = _
  simp [octN]
theorem two_text : formL twoE = [49, 48, 48, 54, 52, 52, 32, 97, 46, 98] ++ (0 :: unhexL idS.data.toList ++ ([52, 48, 48, 48, 48, 32, 97, 0] ++ unhexL idS.data.toList)) := by
  unfold formL twoE entL
  simp only [List.flatMap_cons, List.flatMap_nil, oct_plain, oct_folder]
  simp
theorem idS_len : (unhexL idS.data.toList).length = 20 := by decide +kernel
theorem git_no (s : ByteArray) (h : s.data.toList.map lowC = dotGit) : nameB s.data.toList = false := by
  unfold nameB
  exact decide_eq_false fun e => e.2.2.2.2.2.2 h
set_option maxHeartbeats 2000000 in
set_option maxRecDepth 100000 in
theorem awake_any (w : World) (hG : GT w) : Calls Tryd.prog 13 #[] w fun e w' => e = .returned (.bool true) ∧ Below w.heap.size w w' := by
  have HB0 : Hid (Below w.heap.size w (w.alloc (.cells #[.int .i64 33188, .string ⟨#[97, 46, 98]⟩, .string idS, .int .i64 16384, .string ⟨#[97]⟩, .string idS] 29))) := (Below.refl _ w).alloc (Nat.le_refl _) _
  have HF : Hid (Calls Tryd.prog 10 #[.slice (some ⟨w.heap.size, 0, none⟩) 2 2] (w.alloc (.cells #[.int .i64 33188, .string ⟨#[97, 46, 98]⟩, .string idS, .int .i64 16384, .string ⟨#[97]⟩, .string idS] 29)) fun e w' => e = .returned (.tuple #[.string ⟨(formL twoE).toArray⟩, .int .i64 0]) ∧ Below (w.heap.size + 1) (w.alloc (.cells #[.int .i64 33188, .string ⟨#[97, 46, 98]⟩, .string idS, .int .i64 16384, .string ⟨#[97]⟩, .string idS] 29)) w') := by
    have hn := heap_alloc_new w (.cells #[.int .i64 33188, .string ⟨#[97, 46, 98]⟩, .string idS, .int .i64 16384, .string ⟨#[97]⟩, .string idS] 29)
    have h := treeFormat_any (some ⟨w.heap.size, 0, none⟩) 2 twoE _ (hG.below HB0.out) (.inr ⟨w.heap.size, 0, rfl, (Array.getElem?_eq_some_iff.1 hn).1, fun i hi => by
      have h2 : i = 0 ∨ i = 1 := by simp [twoE] at hi; omega
      rcases h2 with rfl | rfl
      · refine ⟨?_, ?_, ?_⟩ <;> rw [cell_of_row _ _ _ _ 29 (0, 0) hn] <;> rfl
      · refine ⟨?_, ?_, ?_⟩ <;> rw [cell_of_row _ _ _ _ 29 (0, 0) hn] <;> rfl⟩) (fun e he => by
      simp only [twoE, List.mem_cons, List.not_mem_nil, or_false] at he
      rcases he with rfl | rfl <;> refine ⟨by decide, by decide, by decide, by decide⟩)
    have hf : formT twoE = formL twoE := by unfold formT; rw [if_pos two_ok]
    rw [hf, two_ok] at h
    have hs : (w.alloc (.cells #[.int .i64 33188, .string ⟨#[97, 46, 98]⟩, .string idS, .int .i64 16384, .string ⟨#[97]⟩, .string idS] 29)).heap.size = w.heap.size + 1 := by simp
    rw [hs] at h
    exact h
  obtain ⟨S, hS⟩ : ∃ S : ByteArray, S = ⟨(formL twoE).toArray⟩ := ⟨_, rfl⟩
  rw [← hS] at HF
  have s59 : S.size = 59 := by
    rw [hS]
    show (formL twoE).toArray.size = 59
    rw [List.size_toArray, two_text]
    simp only [List.length_append, List.length_cons, List.length_nil, idS_len]
  have hx : S.extract 0 10 = ⟨#[49, 48, 48, 54, 52, 52, 32, 97, 46, 98]⟩ := by
    refine bytes_ext ?_
    rw [ByteArray.data_extract, Array.toList_extract, List.extract_eq_take_drop, hS]
    show ((formL twoE).drop 0).take 10 = _
    rw [List.drop_zero, two_text, List.take_append_of_le_length (by decide)]
    rfl
  have HNM : Hid (∀ V, GT V → Calls Tryd.prog 15 #[.string ⟨#[46, 71, 73, 84]⟩] V fun e w' => e = .returned (.bool false) ∧ Below V.heap.size V w') := fun V hV => by
    have h := name_any ⟨#[46, 71, 73, 84]⟩ V hV
    rw [git_no ⟨#[46, 71, 73, 84]⟩ (by decide)] at h
    exact h
  have HG := hidM hG
  clear hG hS
  unfold idS at HF HB0
  go_enter Tryd.func13, Tryd.ntmps13
  go_wp2_with fail
  refine HF.out.mono ?_
  rintro _ w2 ⟨rfl, hb2⟩
  have HB2 : Hid (Below w.heap.size w w2) := HB0.out.trans (hb2.mono (by omega))
  clear hb2 HF HB0
  go_wp2_with fail
  refine (HNM.out w2 (HG.out.below HB2.out)).mono ?_
  rintro _ w3 ⟨rfl, hb3⟩
  have HB3 : Hid (Below w.heap.size w w3) := HB2.out.trans (hb3.mono HB2.out.size)
  clear hb3 HB2
  go_wp2
  go_ret
  exact ⟨rfl, HB3.out⟩
end Go.Proofs.YtccohagdfpcplaaDoor
