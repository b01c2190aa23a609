/-
  Walks of the document's words on commits: a line's text, who and when.
  Walks of the laws of commit: awake.
  Walks of the laws of commit: CommitSigns.
  Walks of the laws of commit: few (a commit of at most 40 parents, copied).
-/
import Derived.Test.YtbghailohnppmaaDoorJComH
import Derived.Laws.StructEq
import Derived.Laws.OwnMore
namespace Go.Proofs.YtbghailohnppmaaDoor
open Go.RowKit

end Go.Proofs.YtbghailohnppmaaDoor
namespace Go.Proofs.YtbghailohnppmaaDoor
open Go.RowKit

theorem GT.five {w : World} (h : GT w) : 5 ≤ w.heap.size := by
  obtain ⟨a, c, h4⟩ := h.e4
  have := World.block_lt_of_cell? w _ h4
  show 4 < _
  exact this
def idL : List UInt8 := [52, 98, 56, 50, 53, 100, 99, 54, 52, 50, 99, 98, 54, 101, 98, 57, 97, 48, 54, 48, 101, 53, 52, 98, 102, 56, 100, 54, 57, 50, 56, 56, 102, 98, 101, 101, 52, 57, 48, 52]
def sgA : Sg := ⟨[97, 110, 110, 32, 60, 97, 62], 0, 90⟩
def sgC : Sg := ⟨[97, 110, 110], 7, 0⟩
def cmA : Cm := ⟨idL, [], sgA, sgC, [104, 105]⟩
theorem itoa0 : Lib.itoa 0 = [48] := by
  unfold Lib.itoa
  rw [if_neg (by decide), show (0 : Int).toNat = 0 from rfl, dd_small (by decide)]; rfl
theorem itoa7 : Lib.itoa 7 = [55] := by
  unfold Lib.itoa
  rw [if_neg (by decide), show (7 : Int).toNat = 7 from rfl, dd_small (by decide)]; rfl
theorem sgA_ok : SgOk sgA := ⟨by decide, by decide, by decide, by decide⟩
theorem sgC_ok : SgOk sgC := ⟨by decide, by decide, by decide, by decide⟩
theorem sgA_text : sgL sgA = [97, 110, 110, 32, 60, 97, 62, 32, 48, 32, 43, 48, 49, 51, 48] := by unfold sgL sgA; simp only; rw [itoa0]; decide +kernel
theorem sgC_text : sgL sgC = [97, 110, 110, 32, 55, 32, 43, 48, 48, 48, 48] := by unfold sgL sgC; simp only; rw [itoa7]; decide +kernel
def aw1 : List UInt8 := [116, 114, 101, 101, 32, 52, 98, 56, 50, 53, 100, 99, 54, 52, 50, 99, 98, 54, 101, 98, 57, 97, 48, 54, 48, 101, 53, 52, 98, 102, 56, 100, 54, 57, 50, 56, 56, 102, 98, 101, 101, 52, 57, 48, 52, 10, 97, 117, 116, 104, 111, 114, 32, 97, 110, 110, 32, 60, 97, 62, 32, 48, 32, 43, 48, 49, 51, 48, 10, 99, 111, 109, 109, 105, 116, 116, 101, 114, 32, 97, 110, 110, 32, 55, 32, 45, 48, 48, 48, 48, 10, 10, 104, 105]
def aw2 : List UInt8 := [116, 114, 101, 101, 32, 52, 98, 56, 50, 53, 100, 99, 54, 52, 50, 99, 98, 54, 101, 98, 57, 97, 48, 54, 48, 101, 53, 52, 98, 102, 56, 100, 54, 57, 50, 56, 56, 102, 98, 101, 101, 52, 57, 48, 52, 10, 97, 117, 116, 104, 111, 114, 32, 97, 110, 110, 32, 60, 97, 62, 32, 48, 32, 43, 48, 49, 51, 48, 10, 99, 111, 109, 109, 105, 116, 116, 101, 114, 32, 97, 110, 110, 32, 55, 32, 43, 48, 48, 48, 48, 10, 10, 104, 105]
theorem aw2_text : textL cmA = aw2 := by
  unfold textL cmA
  simp only
  rw [sgA_text, sgC_text]
  decide +kernel
theorem aw2_change : changeP aw2 = some cmA := by
  rw [← aw2_text]
  exact changeP_mk ⟨by decide, by decide, sgA_ok, sgC_ok⟩
def r2A : List UInt8 := [99, 111, 109, 109, 105, 116, 116, 101, 114, 32, 97, 110, 110, 32, 55, 32, 45, 48, 48, 48, 48, 10, 10, 104, 105]
theorem r2A_bad : signLn wCommitter r2A = none := by
  unfold signLn
  rw [show lineP wCommitter r2A = some ([97, 110, 110, 32, 55, 32, 45, 48, 48, 48, 48], [10, 104, 105]) by decide +kernel]
  simp only
  unfold signP
  rw [show last1 32 [97, 110, 110, 32, 55, 32, 45, 48, 48, 48, 48] = some ([97, 110, 110, 32, 55], [45, 48, 48, 48, 48]) by decide +kernel]
  simp only
  rw [show last1 32 [97, 110, 110, 32, 55] = some ([97, 110, 110], [55]) by decide +kernel]
  simp only
  rw [show minP [45, 48, 48, 48, 48] = none by decide +kernel]
  cases timeP [55] <;> rfl
theorem aw1_lines : aw1 = wTree ++ idL ++ 10 :: (wAuthor ++ sgL sgA ++ 10 :: r2A) := by
  rw [sgA_text]
  decide +kernel
theorem aw1_change : changeP aw1 = none := by
  rw [aw1_lines]
  unfold changeP
  rw [lineP_mk (by decide) (by decide)]
  simp only
  rw [show parsL (wAuthor ++ sgL sgA ++ 10 :: r2A) = some ([], wAuthor ++ sgL sgA ++ 10 :: r2A) from parsL_mk [] _ (by simp) (by have := author_no (sgL sgA ++ 10 :: r2A); rwa [← List.append_assoc] at this)]
  simp only
  rw [signLn_mk sgA_ok (by decide)]
  simp only
  rw [r2A_bad]
theorem few_small {s : ByteArray} (h : s.size ≤ 1000000000) : FewPar s := fun t r0 h' => by
  have := lineP_len h'
  rw [sl_len] at this
  exact .inl (by omega)
theorem aw1_any (w : World) (hG : GT w) : Calls Tryd.prog 17 #[.string ⟨aw1.toArray⟩] w fun e w' => e = .returned (.tuple #[.agg #[.string ⟨#[]⟩, .slice none 0 0, .string ⟨#[]⟩, .int .i64 0, .int .i64 0, .string ⟨#[]⟩, .int .i64 0, .int .i64 0, .string ⟨#[]⟩], .int .i64 3]) ∧ Below w.heap.size w w' := by
  have hp : parE ⟨aw1.toArray⟩ = 3 := by unfold parE; rw [show (⟨aw1.toArray⟩ : ByteArray).data.toList = aw1 from rfl, aw1_change]
  refine (parse_any ⟨aw1.toArray⟩ w hG (by decide +kernel) (few_small (by decide +kernel)) hG.five).mono ?_
  rintro e w' ⟨hb, h⟩
  refine ⟨?_, hb⟩
  rcases h with ⟨-, h⟩ | ⟨h, -⟩
  · rw [h, hp]; rfl
  · rw [hp] at h; cases h
theorem aw2_any (w : World) (hG : GT w) : Calls Tryd.prog 17 #[.string ⟨aw2.toArray⟩] w fun e w' => ∃ pa pn pc, e = .returned (.tuple #[.agg #[.string ⟨#[52, 98, 56, 50, 53, 100, 99, 54, 52, 50, 99, 98, 54, 101, 98, 57, 97, 48, 54, 48, 101, 53, 52, 98, 102, 56, 100, 54, 57, 50, 56, 56, 102, 98, 101, 101, 52, 57, 48, 52]⟩, .slice pa pn pc, .string ⟨#[97, 110, 110, 32, 60, 97, 62]⟩, .int .i64 0, .int .i64 90, .string ⟨#[97, 110, 110]⟩, .int .i64 7, .int .i64 0, .string ⟨#[104, 105]⟩], .int .i64 0]) ∧ Below w.heap.size w w' := by
  have hc : changeP (⟨aw2.toArray⟩ : ByteArray).data.toList = some cmA := aw2_change
  have hp : parE ⟨aw2.toArray⟩ = 0 := by unfold parE; rw [hc]; decide +kernel
  refine (parse_any ⟨aw2.toArray⟩ w hG (by decide +kernel) (few_small (by decide +kernel)) hG.five).mono ?_
  rintro e w' ⟨hb, h⟩
  rcases h with ⟨h, -⟩ | ⟨-, c, pv, h1, h2, h3⟩
  · exact absurd hp h
  · rw [hc] at h1
    injection h1 with h1
    subst h1
    obtain ⟨va, vn, vc, hpv⟩ := h3.slice
    subst hpv
    exact ⟨va, vn, vc, h2, hb⟩
set_option maxHeartbeats 2000000 in
set_option maxRecDepth 100000 in
theorem awake_any (w : World) (hG : GT w) : Calls Tryd.prog 12 #[] w fun e w' => e = .returned (.bool true) ∧ Below w.heap.size w w' := by
  have HA := hidM (fun V hV => aw1_any V hV)
  have HB := hidM (fun V hV => aw2_any V hV)
  have HG := hidM hG
  obtain ⟨X1, hX1⟩ : ∃ Q, (⟨#[116, 114, 101, 101, 32]⟩ : ByteArray) ++ (⟨#[52, 98, 56, 50, 53, 100, 99, 54, 52, 50, 99, 98, 54, 101, 98, 57, 97, 48, 54, 48, 101, 53, 52, 98, 102, 56, 100, 54, 57, 50, 56, 56, 102, 98, 101, 101, 52, 57, 48, 52]⟩ : ByteArray) = Q := ⟨_, rfl⟩
  have x1 : X1.size = 45 := by rw [← hX1]; decide +kernel
  have hS1 : X1 ++ (⟨#[10, 97, 117, 116, 104, 111, 114, 32, 97, 110, 110, 32, 60, 97, 62, 32, 48, 32, 43, 48, 49, 51, 48, 10, 99, 111, 109, 109, 105, 116, 116, 101, 114, 32, 97, 110, 110, 32, 55, 32, 45, 48, 48, 48, 48, 10, 10, 104, 105]⟩ : ByteArray) = ⟨aw1.toArray⟩ := by rw [← hX1]; decide +kernel
  have hS2 : X1 ++ (⟨#[10, 97, 117, 116, 104, 111, 114, 32, 97, 110, 110, 32, 60, 97, 62, 32, 48, 32, 43, 48, 49, 51, 48, 10, 99, 111, 109, 109, 105, 116, 116, 101, 114, 32, 97, 110, 110, 32, 55, 32, 43, 48, 48, 48, 48, 10, 10, 104, 105]⟩ : ByteArray) = ⟨aw2.toArray⟩ := by rw [← hX1]; decide +kernel
  obtain ⟨S1, hs1⟩ : ∃ S, S = (⟨aw1.toArray⟩ : ByteArray) := ⟨_, rfl⟩
  obtain ⟨S2, hs2⟩ : ∃ S, S = (⟨aw2.toArray⟩ : ByteArray) := ⟨_, rfl⟩
  rw [← hs1] at hS1 HA
  rw [← hs2] at hS2 HB
  clear hs1 hs2 hG
  go_enter Tryd.func12, Tryd.ntmps12
  go_wp2_with fail
  refine (HA.out _ HG.out).mono ?_
  rintro _ w1 ⟨rfl, hb1⟩
  have HB1 := hidM (hb1.trans ((Below.refl w1.heap.size w1).alloc (Nat.le_refl _) (.cells #[.string ⟨#[]⟩, .slice none 0 0, .string ⟨#[]⟩, .int .i64 0, .int .i64 0, .string ⟨#[]⟩, .int .i64 0, .int .i64 0, .string ⟨#[]⟩] 26) |>.mono hb1.size))
  have HG1 := hidM (HG.out.below HB1.out)
  have C1 : Hid ((w1.alloc (.cells #[.string ⟨#[]⟩, .slice none 0 0, .string ⟨#[]⟩, .int .i64 0, .int .i64 0, .string ⟨#[]⟩, .int .i64 0, .int .i64 0, .string ⟨#[]⟩] 26)).heap[w1.heap.size]? = some (.cells #[.string ⟨#[]⟩, .slice none 0 0, .string ⟨#[]⟩, .int .i64 0, .int .i64 0, .string ⟨#[]⟩, .int .i64 0, .int .i64 0, .string ⟨#[]⟩] 26 (0, 0))) := heap_alloc_new w1 _
  clear hb1
  go_upto_region 3 with fail
  generalize w1.alloc (.cells #[.string ⟨#[]⟩, .slice none 0 0, .string ⟨#[]⟩, .int .i64 0, .int .i64 0, .string ⟨#[]⟩, .int .i64 0, .int .i64 0, .string ⟨#[]⟩] 26) = W1 at *
  generalize w1.heap.size = g1 at *
  go_wp2_with fail
  refine (HB.out _ HG1.out).mono ?_
  rintro _ w2 ⟨pa, pn, pc, rfl, hb2⟩
  have C2 := hidM (box_bel C1.out hb2)
  have lt1 := hidM (World.block_lt_of_cell? w2 ⟨g1, 0, none⟩ (by rw [cell_of_row w2 g1 _ _ 26 (0, 0) C2.out]; rfl))
  have HB2 := hidM (HB1.out.trans (hb2.mono HB1.out.size))
  have HB3 := hidM (HB2.out.trans ((Below.refl w2.heap.size w2).alloc (Nat.le_refl _) (.cells #[.string ⟨#[52, 98, 56, 50, 53, 100, 99, 54, 52, 50, 99, 98, 54, 101, 98, 57, 97, 48, 54, 48, 101, 53, 52, 98, 102, 56, 100, 54, 57, 50, 56, 56, 102, 98, 101, 101, 52, 57, 48, 52]⟩, .slice pa pn pc, .string ⟨#[97, 110, 110, 32, 60, 97, 62]⟩, .int .i64 0, .int .i64 90, .string ⟨#[97, 110, 110]⟩, .int .i64 7, .int .i64 0, .string ⟨#[104, 105]⟩] 26) |>.mono HB2.out.size))
  have D1 : Hid ((w2.alloc (.cells #[.string ⟨#[52, 98, 56, 50, 53, 100, 99, 54, 52, 50, 99, 98, 54, 101, 98, 57, 97, 48, 54, 48, 101, 53, 52, 98, 102, 56, 100, 54, 57, 50, 56, 56, 102, 98, 101, 101, 52, 57, 48, 52]⟩, .slice pa pn pc, .string ⟨#[97, 110, 110, 32, 60, 97, 62]⟩, .int .i64 0, .int .i64 90, .string ⟨#[97, 110, 110]⟩, .int .i64 7, .int .i64 0, .string ⟨#[104, 105]⟩] 26)).heap[g1]? = some (.cells #[.string ⟨#[]⟩, .slice none 0 0, .string ⟨#[]⟩, .int .i64 0, .int .i64 0, .string ⟨#[]⟩, .int .i64 0, .int .i64 0, .string ⟨#[]⟩] 26 (0, 0))) := box_bel C2.out ((Below.refl w2.heap.size w2).alloc (Nat.le_refl _) _)
  have D2 : Hid ((w2.alloc (.cells #[.string ⟨#[52, 98, 56, 50, 53, 100, 99, 54, 52, 50, 99, 98, 54, 101, 98, 57, 97, 48, 54, 48, 101, 53, 52, 98, 102, 56, 100, 54, 57, 50, 56, 56, 102, 98, 101, 101, 52, 57, 48, 52]⟩, .slice pa pn pc, .string ⟨#[97, 110, 110, 32, 60, 97, 62]⟩, .int .i64 0, .int .i64 90, .string ⟨#[97, 110, 110]⟩, .int .i64 7, .int .i64 0, .string ⟨#[104, 105]⟩] 26)).heap[w2.heap.size]? = some (.cells #[.string ⟨#[52, 98, 56, 50, 53, 100, 99, 54, 52, 50, 99, 98, 54, 101, 98, 57, 97, 48, 54, 48, 101, 53, 52, 98, 102, 56, 100, 54, 57, 50, 56, 56, 102, 98, 101, 101, 52, 57, 48, 52]⟩, .slice pa pn pc, .string ⟨#[97, 110, 110, 32, 60, 97, 62]⟩, .int .i64 0, .int .i64 90, .string ⟨#[97, 110, 110]⟩, .int .i64 7, .int .i64 0, .string ⟨#[104, 105]⟩] 26 (0, 0))) := heap_alloc_new w2 _
  clear hb2 C2 HB2
  go_upto_region 4 with fail
  generalize w2.alloc (.cells #[.string ⟨#[52, 98, 56, 50, 53, 100, 99, 54, 52, 50, 99, 98, 54, 101, 98, 57, 97, 48, 54, 48, 101, 53, 52, 98, 102, 56, 100, 54, 57, 50, 56, 56, 102, 98, 101, 101, 52, 57, 48, 52]⟩, .slice pa pn pc, .string ⟨#[97, 110, 110, 32, 60, 97, 62]⟩, .int .i64 0, .int .i64 90, .string ⟨#[97, 110, 110]⟩, .int .i64 7, .int .i64 0, .string ⟨#[104, 105]⟩] 26) = W2 at *
  generalize w2.heap.size = g2 at *
  have k0 : W2.cell? ⟨g1, 0, none⟩ = some (.string ⟨#[]⟩) := by rw [cell_of_row W2 g1 _ _ 26 (0, 0) D1.out]; rfl
  have m3 : W2.cell? ⟨g2, 3, none⟩ = some (.int .i64 0) := by rw [cell_of_row W2 g2 _ _ 26 (0, 0) D2.out]; rfl
  have m4 : W2.cell? ⟨g2, 4, none⟩ = some (.int .i64 90) := by rw [cell_of_row W2 g2 _ _ 26 (0, 0) D2.out]; rfl
  have m2 : W2.cell? ⟨g2, 2, none⟩ = some (.string ⟨#[97, 110, 110, 32, 60, 97, 62]⟩) := by rw [cell_of_row W2 g2 _ _ 26 (0, 0) D2.out]; rfl
  have m6 : W2.cell? ⟨g2, 6, none⟩ = some (.int .i64 7) := by rw [cell_of_row W2 g2 _ _ 26 (0, 0) D2.out]; rfl
  have m8 : W2.cell? ⟨g2, 8, none⟩ = some (.string ⟨#[104, 105]⟩) := by rw [cell_of_row W2 g2 _ _ 26 (0, 0) D2.out]; rfl
  go_wp2
  go_ret
  exact ⟨rfl, HB3.out⟩
end Go.Proofs.YtbghailohnppmaaDoor
namespace Go.Proofs.YtbghailohnppmaaDoor
open Go.RowKit

theorem bytes_ext {a b : ByteArray} (h : a.data.toList = b.data.toList) : a = b := ByteArray.ext (Array.toList_inj.1 h)
theorem lineB_no {l : List UInt8} (h : lineB l = true) : (10 : UInt8) ∉ l := by
  unfold lineB at h
  simp only [Bool.and_eq_true, Bool.not_eq_true', List.contains_eq_mem, decide_eq_false_iff_not] at h
  exact h.1.2
theorem idB_nl {l : List UInt8} (h : idB l = true) : (10 : UInt8) ∉ l := by
  intro hm
  unfold idB at h
  simp only [Bool.and_eq_true, List.all_eq_true] at h
  have := h.1 10 hm
  revert this
  decide
theorem sg_ok {s : Sb} (h : signedG (sgOf s) = true) : SgOk (sgOf s) := by
  obtain ⟨_, h2, h3, h4, h5, h6⟩ := signed_facts h
  exact ⟨lineB_no h2, by show _ ≤ s.time; omega, by show s.time ≤ _; omega, by show s.zone.natAbs < _; omega⟩
theorem cm_ok {t : ByteArray} {ps : List ByteArray} {a c : Sb} (m : ByteArray) (h : checkE t ps a c = 0) : CmOk (cmOf t ps a c m) := by
  obtain ⟨_, h2, h3, h4, h5⟩ := check_zero h
  refine ⟨idB_nl h3, fun p hp => ?_, sg_ok h4, sg_ok h5⟩
  obtain ⟨q, hq, rfl⟩ := List.mem_map.1 hp
  exact idB_nl (h2 q hq)
theorem baL_list (b : ByteArray) : baL b.data.toList = b := by
  apply ByteArray.ext; rfl
theorem text_change {t : ByteArray} {ps : List ByteArray} {a c : Sb} {m : ByteArray} (h : checkE t ps a c = 0) : changeP (textB t ps a c m).data.toList = some (cmOf t ps a c m) := changeP_mk (cm_ok m h)
theorem pars_back (ps : List ByteArray) : (ps.map fun p => p.data.toList).map baL = ps := by
  rw [List.map_map]
  have : ((baL ∘ fun p : ByteArray => p.data.toList) : ByteArray → ByteArray) = id := funext fun p => baL_list p
  rw [this, List.map_id]
theorem held24 : Tryd.prog.stoodInHeld 24 = false := by kernel_rfl
theorem guard24 : Tryd.prog.eqGuardType Tryd.prog.depth 24 = false := by kernel_rfl
theorem struct24 : Tryd.prog.underlying 24 = some (.struct (Tryd.prog.fieldsOf 24)) := by kernel_rfl
def sbEq (a b : Sb) : Bool := a.who.toList == b.who.toList && (a.time == b.time && a.zone == b.zone)
theorem bytesEq (x y : ByteArray) : (x.toList == y.toList) = decide (x = y) := by
  rw [ByteArray.toList_eq, ByteArray.toList_eq]
  by_cases h : x = y
  · rw [h, decide_eq_true rfl]; simp
  · rw [decide_eq_false h]
    simp only [beq_eq_false_iff_ne, ne_eq]
    exact fun e => h (bytes_ext e)
theorem sbEq_iff (a b : Sb) : sbEq a b = true ↔ a = b := by
  obtain ⟨a1, a2, a3⟩ := a
  obtain ⟨b1, b2, b3⟩ := b
  unfold sbEq
  simp only [bytesEq]
  simp
theorem fields24 : (Tryd.prog.fieldsOf 24).toList.map (fun f => (f.name, f.type, f.offset)) = [("Who", 9, 0), ("Time", 3, 1), ("Zone", 3, 2)] := by kernel_rfl
theorem equal24 (a b : Sb) (w : World) :
    (Op.equalIn 10000 24 (sbV a) (sbV b)).run Tryd.prog w = .ok (sbEq a b) w := by
  obtain ⟨n1, m1, i1⟩ := a
  obtain ⟨n2, m2, i2⟩ := b
  unfold sbV
  rw [run_equalIn_struct w 9999 24 _ _ struct24 held24]
  have hf := fields24
  obtain ⟨f1, f2, f3, he⟩ : ∃ f1 f2 f3, (Tryd.prog.fieldsOf 24).toList = [f1, f2, f3] := by
    generalize (Tryd.prog.fieldsOf 24).toList = fl at hf
    rcases fl with _ | ⟨f1, _ | ⟨f2, _ | ⟨f3, _ | ⟨f4, fl⟩⟩⟩⟩
    · simp at hf
    · simp at hf
    · simp at hf
    · exact ⟨f1, f2, f3, rfl⟩
    · simp at hf
  rw [he] at hf ⊢
  simp only [List.map_cons, List.map_nil, List.cons.injEq, Prod.mk.injEq, and_true] at hf
  obtain ⟨⟨a1, a2, a3⟩, ⟨b1, b2, b3⟩, ⟨c1, c2, c3⟩⟩ := hf
  have p1 : ∀ (n : ByteArray) (m i : Int) (w : World), (part 9 #[.string n, .int .i64 m, .int .i64 i] 0).run Tryd.prog w = .ok (.string n) w := by intro n m i w; kernel_rfl
  have p2 : ∀ (n : ByteArray) (m i : Int) (w : World), (part 3 #[.string n, .int .i64 m, .int .i64 i] 1).run Tryd.prog w = .ok (.int .i64 m) w := by intro n m i w; kernel_rfl
  have p3 : ∀ (n : ByteArray) (m i : Int) (w : World), (part 3 #[.string n, .int .i64 m, .int .i64 i] 2).run Tryd.prog w = .ok (.int .i64 i) w := by intro n m i w; kernel_rfl
  unfold sbEq
  simp only [Op.eqFields, a1, a2, a3, b1, b2, b3, c1, c2, c3, Sem.run_ite, Sem.run_bind, p1, p2, p3, Result.andThen_ok, ne_eq, String.reduceEq, not_false_eq_true, if_true]
  rw [run_equalIn_string w 9998 9 n1 n2 Tryd.underlying9]
  simp only [Result.andThen_ok]
  cases h1 : (n1.toList == n2.toList) with
  | false => simp
  | true =>
    simp only [Bool.not_true, Bool.false_eq_true, if_false, Bool.true_and]
    rw [run_equalIn_int w 9998 3 .i64 .i64 m1 m2 Tryd.underlying3]
    simp only [Result.andThen_ok]
    cases h2 : (m1 == m2) with
    | false => simp
    | true =>
      simp only [Bool.not_true, Bool.false_eq_true, if_false, Bool.true_and]
      rw [run_equalIn_int w 9998 3 .i64 .i64 i1 i2 Tryd.underlying3]
      simp only [Result.andThen_ok]
      cases h3 : (i1 == i2) with
      | false => simp
      | true => simp
/-- the sign's box and the read commit's -/
structure SnX (w : World) (B : Nat) (who : ByteArray) (t z : Int) (g : Nat) (row : Array Value) (V : World) : Prop where
  sg : SgX w B who t z V
  box : V.heap[g]? = some (.cells row 26 (0, 0))
theorem SnX.next {w V w' : World} {B g : Nat} {who : ByteArray} {t z : Int} {row : Array Value} (H : SnX w B who t z g row V) (hb : Below V.heap.size V w') : SnX w B who t z g row w' := ⟨H.sg.next hb, box_bel H.box hb⟩
theorem SnX.drew {w V : World} {B g : Nat} {who : ByteArray} {t z : Int} {row : Array Value} (H : Hid (SnX w B who t z g row V)) : Hid (SnX w B who t z g row V.drew) := H.out.next ((Below.refl _ V).trans ⟨rfl, rfl, rfl, Nat.le_refl _, fun _ _ => rfl⟩)
theorem SnX.drewN {w V : World} {B g : Nat} {who : ByteArray} {t z : Int} {row : Array Value} {m : Nat} (H : Hid (SnX w B who t z g row V)) : Hid (SnX w B who t z g row (V.drewN m)) := H.out.next (below_drewN (Below.refl _ _) m)
theorem SnX.full {w V : World} {B g : Nat} {who : ByteArray} {t z : Int} {row : Array Value} (H : SnX w B who t z g row V) : V.cell? ⟨B, 0, none⟩ = some (.string who) ∧ V.cell? ⟨B, 1, none⟩ = some (.int .i64 t) ∧ V.cell? ⟨B, 2, none⟩ = some (.int .i64 z) ∧ Hid (SnX w B who t z g row V) := by
  obtain ⟨a, b, c, _⟩ := SgX.full H.sg
  exact ⟨a, b, c, H⟩
theorem SnX.cell {w V : World} {B g : Nat} {who : ByteArray} {t z : Int} {row : Array Value} (H : SnX w B who t z g row V) (i : Nat) {v : Value} (hv : row[i]? = some v) : V.cell? ⟨g, i, none⟩ = some v := by
  rw [cell_of_row V g _ _ 26 (0, 0) H.box]; exact hv
theorem SnX.call {w V : World} {B f g : Nat} {who : ByteArray} {t z : Int} {row : Array Value} {args : Array Value} {v : Value} (h : Calls Tryd.prog f args V fun x w' => x = .returned v ∧ Below V.heap.size V w') (H : Hid (SnX w B who t z g row V)) :
    Calls Tryd.prog f args V fun x w' => x = .returned v ∧ (w'.cell? ⟨B, 0, none⟩ = some (.string who) ∧ w'.cell? ⟨B, 1, none⟩ = some (.int .i64 t) ∧ w'.cell? ⟨B, 2, none⟩ = some (.int .i64 z) ∧ Hid (SnX w B who t z g row w')) := by
  refine h.mono ?_
  rintro x w' ⟨e, hb⟩
  exact ⟨e, SnX.full (H.out.next hb)⟩
end Go.Proofs.YtbghailohnppmaaDoor
namespace Go.Proofs.YtbghailohnppmaaDoor
open Go.RowKit

/-- a list of texts that was handed in, with room behind it -/
def StrsO (w : World) (v : Value) (l : List ByteArray) : Prop :=
  (v = .slice none 0 0 ∧ l = []) ∨ (∃ a cap, v = .slice (some a) 0 cap ∧ l = []) ∨ ∃ b off cap, v = .slice (some ⟨b, off, none⟩) l.length cap ∧ b < w.heap.size ∧ l.length ≤ cap ∧ ∀ j (h : j < l.length), w.cell? ⟨b, off + j, none⟩ = some (.string l[j])
theorem own_row {V : World} {B k : Nat} {pv : Value} {l : List ByteArray} {c : Array Value} (h : OwnS V B pv l) (hk : k < B) : OwnS (V.setRow k c) B pv l := by
  obtain ⟨hl, h2⟩ := h
  refine ⟨hl, ?_⟩
  rcases h2 with h2 | ⟨g, cap, cur, rfl, hBg, hg, hr⟩
  · exact .inl h2
  · exact .inr ⟨g, cap, cur, rfl, hBg, (setRow_other V k g c (by omega)).trans hg, hr⟩
theorem own_made2 (w : World) (x y : Obj) : (((w.alloc x).alloc y).alloc (.cells #[] 9)).ownsRow (w.heap.size + 2) 9 1 (.slice (some ⟨w.heap.size + 1 + 1, 0, none⟩) 0 0) 0 [] := by
  have := World.ownsRow_made (base := w.heap.size + 2) (e := 9) (size := 1) ((w.alloc x).alloc y) #[] 0 (by simp) (Nat.zero_le _) (by simp)
  simpa using this
theorem grown_made2 {w w1 : World} {x y : Obj} (h : (((w.alloc x).alloc y).alloc (.cells #[] 9)).grownBy w1 (Value.slice (some ⟨w.heap.size + 1 + 1, 0, none⟩) 0 0).ownBlock) : Below (w.heap.size + 2) ((w.alloc x).alloc y) w1 := by
  have hs : ((w.alloc x).alloc y).heap.size = w.heap.size + 2 := by simp
  have h1 : Below (w.heap.size + 2) ((w.alloc x).alloc y) (((w.alloc x).alloc y).alloc (.cells #[] 9)) := (Below.refl (w.heap.size + 2) _).alloc (by omega) _
  exact h1.grown h (by simp) (by intro k hk; simp [Value.ownBlock] at hk; omega)
theorem strs_one (l : List ByteArray) : ∀ u ∈ strsV l, u.oneCell' = true := by
  intro u hu
  obtain ⟨x, _, rfl⟩ := List.mem_map.1 hu
  rfl
def FewPost (t : ByteArray) (us : List ByteArray) (a c : Sb) (m : ByteArray) (w : World) (e : Ending) (w' : World) : Prop := ∃ pv, e = .returned (.agg (c26 t pv a c m)) ∧ OwnS w' w.heap.size pv us ∧ Below w.heap.size w w'
set_option maxHeartbeats 2000000 in
set_option maxRecDepth 20000 in
theorem few_none (t : ByteArray) (a c : Sb) (m : ByteArray) (w : World) :
    Calls Tryd.prog 9 #[.agg (c26 t (.slice none 0 0) a c m)] w fun e w' => FewPost t [] a c m w e w' := by
  obtain ⟨awho, at_, az⟩ := a
  obtain ⟨cwho, ct, cz⟩ := c
  unfold FewPost
  simp only [c26]
  go_enter Tryd.func9, Tryd.ntmps9
  go_wp2
  refine bodyPost_ret (results_cell_row rfl _ _ (w.heap.size + 1) 26 #[.string t, .slice (some ⟨w.heap.size + 1 + 1, 0, none⟩) 0 0, .string awho, .int .i64 at_, .int .i64 az, .string cwho, .int .i64 ct, .int .i64 cz, .string m] (0, 0) _ rfl ?_ Tryd.underlying26 rfl size26) rfl ⟨_, rfl, ?_, ?_⟩
  · exact (((Below.refl _ _).alloc (Nat.le_refl _) _).block _ (by simp)).trans (heap_alloc2_new w _ _)
  · exact own_mono (own_made2 w _ _) (by omega)
  · exact (((Below.refl _ w).alloc (Nat.le_refl _) _).alloc (by simp) _).alloc (by simp; omega) _
set_option maxHeartbeats 2000000 in
set_option maxRecDepth 20000 in
theorem few_empty (t : ByteArray) (ad : Addr) (cap : Nat) (a c : Sb) (m : ByteArray) (w : World) :
    Calls Tryd.prog 9 #[.agg (c26 t (.slice (some ad) 0 cap) a c m)] w fun e w' => FewPost t [] a c m w e w' := by
  obtain ⟨awho, at_, az⟩ := a
  obtain ⟨cwho, ct, cz⟩ := c
  unfold FewPost
  simp only [c26]
  obtain ⟨us, hus⟩ : ∃ us : List ByteArray, [] = us := ⟨_, rfl⟩
  obtain ⟨news, hnw⟩ : ∃ n : List Value, [] = n := ⟨_, rfl⟩
  have HLN : Hid (news.length = 0 * 1) := by rw [← hnw]; rfl
  have HLU : Hid (us.length = 0) := by rw [← hus]; rfl
  have HNS : Hid (news = strsV us) := by rw [← hnw, ← hus]; rfl
  have HNW : Hid (∀ j u, news[j]? = some u → w.cell? (ad.add j) = some u) := by rw [← hnw]; intro j u h; simp at h
  have HON : Hid (∀ u ∈ news, u.oneCell' = true) := by rw [← hnw]; intro u h; cases h
  rw [hus]
  clear hus hnw
  go_enter Tryd.func9, Tryd.ntmps9
  obtain ⟨i0, hi, hz0, hz1, hz2⟩ := info_parts info9
  go_wp2_with (at_builtin; refine wpList_append_own _ rfl _ _ 22 rfl (w.heap.size + 2) 9 i0 (.string .empty) 1 16 Tryd.underlying22 hi hz0 hz1 hz2 rfl (by decide) _ _ _ rfl (own_made2 w _ _) ad 0 cap news rfl ?qc1 ?qc2 ?qc3 ?qc4 ?qc5 ?qc6 ?_)
  case qc1 => exact HLN.out
  case qc2 =>
    intro j u hj
    exact Lib.cell?_alloc_some _ (Lib.cell?_alloc_some _ (Lib.cell?_alloc_some _ (HNW.out j u hj)))
  case qc3 => exact HON.out
  case qc4 => unfold maxLen; omega
  case qc5 => omega
  case qc6 => simp
  intro v' w1 hown hgrow hnil
  have HB : Hid (Below (w.heap.size + 2) ((w.alloc (.cells #[.string t, .slice (some ad) 0 cap, .string awho, .int .i64 at_, .int .i64 az, .string cwho, .int .i64 ct, .int .i64 cz, .string m] 26)).alloc (.cells #[.string ⟨#[]⟩, .slice none 0 0, .string ⟨#[]⟩, .int .i64 0, .int .i64 0, .string ⟨#[]⟩, .int .i64 0, .int .i64 0, .string ⟨#[]⟩] 26)) w1) := grown_made2 hgrow
  have HC1 : Hid (w1.heap[w.heap.size]? = some (.cells #[.string t, .slice (some ad) 0 cap, .string awho, .int .i64 at_, .int .i64 az, .string cwho, .int .i64 ct, .int .i64 cz, .string m] 26 (0, 0))) := (HB.out.block _ (by omega)).trans (heap_alloc2_old w _ _)
  have HR1 : Hid (w1.heap[w.heap.size + 1]? = some (.cells #[.string ⟨#[]⟩, .slice none 0 0, .string ⟨#[]⟩, .int .i64 0, .int .i64 0, .string ⟨#[]⟩, .int .i64 0, .int .i64 0, .string ⟨#[]⟩] 26 (0, 0))) := (HB.out.block _ (by omega)).trans (heap_alloc2_new w _ _)
  have HBW : Hid (Below w.heap.size w w1) := (((Below.refl _ w).alloc (Nat.le_refl _) _).alloc (by simp) _).trans (HB.out.mono (by omega))
  have HO1 : Hid (OwnS w1 (w.heap.size + 2) v' us) := by
    have := hown
    rw [HNS.out] at this
    have hl := HLU.out
    unfold Hid OwnS
    rw [hl]
    simpa using this
  clear hown hgrow hnil HB HLN HNW HON HNS
  obtain ⟨va, vn, vc, hpv⟩ := HO1.out.slice
  subst hpv
  have cl : w1.cell? ⟨w.heap.size, 1, none⟩ = some (.slice (some ad) 0 cap) := by rw [cell_of_row w1 _ _ _ 26 (0, 0) HC1.out]; rfl
  have fl : w1.frozen? ⟨w.heap.size, 1, none⟩ = false := by simp [World.frozen?, HC1.out]
  go_upto_region 4 with fail
  have HSE : Hid (w1.setCell ⟨w.heap.size, 1, none⟩ (.slice va vn vc) = w1.setRow w.heap.size #[.string t, .slice va vn vc, .string awho, .int .i64 at_, .int .i64 az, .string cwho, .int .i64 ct, .int .i64 cz, .string m]) := setCell_eq_setRow w1 _ 1 _ 26 (0, 0) _ HC1.out
  rw [HSE.out]
  have HC2 : Hid ((w1.setRow w.heap.size #[.string t, .slice va vn vc, .string awho, .int .i64 at_, .int .i64 az, .string cwho, .int .i64 ct, .int .i64 cz, .string m]).heap[w.heap.size]? = some (.cells #[.string t, .slice va vn vc, .string awho, .int .i64 at_, .int .i64 az, .string cwho, .int .i64 ct, .int .i64 cz, .string m] 26 (0, 0))) := setRow_heap _ _ _ _ 26 _ HC1.out
  have HR2 : Hid ((w1.setRow w.heap.size #[.string t, .slice va vn vc, .string awho, .int .i64 at_, .int .i64 az, .string cwho, .int .i64 ct, .int .i64 cz, .string m]).heap[w.heap.size + 1]? = some (.cells #[.string ⟨#[]⟩, .slice none 0 0, .string ⟨#[]⟩, .int .i64 0, .int .i64 0, .string ⟨#[]⟩, .int .i64 0, .int .i64 0, .string ⟨#[]⟩] 26 (0, 0))) := (setRow_other w1 _ _ _ (by omega)).trans HR1.out
  have HO2 : Hid (OwnS (w1.setRow w.heap.size #[.string t, .slice va vn vc, .string awho, .int .i64 at_, .int .i64 az, .string cwho, .int .i64 ct, .int .i64 cz, .string m]) (w.heap.size + 2) (.slice va vn vc) us) := own_row HO1.out (by omega)
  have HB2 : Hid (Below w.heap.size w (w1.setRow w.heap.size #[.string t, .slice va vn vc, .string awho, .int .i64 at_, .int .i64 az, .string cwho, .int .i64 ct, .int .i64 cz, .string m])) := below_setRow HBW.out (Nat.le_refl _)
  clear HSE HC1 HR1 HO1 HBW cl fl
  generalize w1.setRow w.heap.size #[.string t, .slice va vn vc, .string awho, .int .i64 at_, .int .i64 az, .string cwho, .int .i64 ct, .int .i64 cz, .string m] = W2 at *
  clear w1
  obtain ⟨g1, hg1⟩ : ∃ X, w.heap.size = X := ⟨_, rfl⟩
  rw [hg1] at HC2 HR2 HO2 HB2 ⊢
  have k0 : W2.cell? ⟨g1, 0, none⟩ = some (.string t) := by rw [cell_of_row W2 _ _ _ 26 (0, 0) HC2.out]; rfl
  have k1 : W2.cell? ⟨g1, 1, none⟩ = some (.slice va vn vc) := by rw [cell_of_row W2 _ _ _ 26 (0, 0) HC2.out]; rfl
  have k2 : W2.cell? ⟨g1, 2, none⟩ = some (.string awho) := by rw [cell_of_row W2 _ _ _ 26 (0, 0) HC2.out]; rfl
  have k3 : W2.cell? ⟨g1, 3, none⟩ = some (.int .i64 at_) := by rw [cell_of_row W2 _ _ _ 26 (0, 0) HC2.out]; rfl
  have k4 : W2.cell? ⟨g1, 4, none⟩ = some (.int .i64 az) := by rw [cell_of_row W2 _ _ _ 26 (0, 0) HC2.out]; rfl
  have k5 : W2.cell? ⟨g1, 5, none⟩ = some (.string cwho) := by rw [cell_of_row W2 _ _ _ 26 (0, 0) HC2.out]; rfl
  have k6 : W2.cell? ⟨g1, 6, none⟩ = some (.int .i64 ct) := by rw [cell_of_row W2 _ _ _ 26 (0, 0) HC2.out]; rfl
  have k7 : W2.cell? ⟨g1, 7, none⟩ = some (.int .i64 cz) := by rw [cell_of_row W2 _ _ _ 26 (0, 0) HC2.out]; rfl
  have k8 : W2.cell? ⟨g1, 8, none⟩ = some (.string m) := by rw [cell_of_row W2 _ _ _ 26 (0, 0) HC2.out]; rfl
  go_wp2_with (refine wpList_store_row rfl 26 (.tmp 2) (.tmp 16) rfl (g1 + 1) #[.string t, .slice va vn vc, .string awho, .int .i64 at_, .int .i64 az, .string cwho, .int .i64 ct, .int .i64 cz, .string m] rfl rfl 26 #[.string ⟨#[]⟩, .slice none 0 0, .string ⟨#[]⟩, .int .i64 0, .int .i64 0, .string ⟨#[]⟩, .int .i64 0, .int .i64 0, .string ⟨#[]⟩] HR2.out size26 rfl (ones26 _ _ _ _ _ _ _ _ _ _ _) ?_)
  subst hg1
  exact bodyPost_ret (results_cell_row rfl _ _ (w.heap.size + 1) 26 _ (0, 0) _ rfl (setRow_heap _ _ _ _ 26 _ HR2.out) Tryd.underlying26 rfl size26) rfl ⟨_, rfl, own_mono (own_row HO2.out (by omega)) (by omega), below_setRow HB2.out (by omega)⟩
set_option maxHeartbeats 2000000 in
set_option maxRecDepth 20000 in
theorem few_at (t : ByteArray) (b off cap : Nat) (l : List ByteArray) (a c : Sb) (m : ByteArray) (w : World) (hcap : l.length ≤ cap) (hf : ∀ j (h : j < l.length), w.cell? ⟨b, off + j, none⟩ = some (.string l[j])) :
    Calls Tryd.prog 9 #[.agg (c26 t (.slice (some ⟨b, off, none⟩) l.length cap) a c m)] w fun e w' => FewPost t (l.take 40) a c m w e w' := by
  obtain ⟨awho, at_, az⟩ := a
  obtain ⟨cwho, ct, cz⟩ := c
  unfold FewPost
  simp only [c26]
  obtain ⟨us, hus⟩ : ∃ us, l.take 40 = us := ⟨_, rfl⟩
  have HLM : Hid (us.length = min 40 l.length) := by rw [← hus]; simp [Hid]
  have HNW : Hid (∀ j u, (strsV us)[j]? = some u → w.cell? ((⟨b, off, none⟩ : Addr).add j) = some u) := by
    intro j u h
    rw [← hus] at h
    unfold strsV at h
    rw [List.getElem?_map, Option.map_eq_some_iff] at h
    obtain ⟨x, hx, rfl⟩ := h
    have hj := (List.getElem?_eq_some_iff.1 hx).1
    simp at hj
    rw [List.getElem?_take_of_lt (by omega), List.getElem?_eq_getElem (by omega)] at hx
    injection hx with hx
    rw [Addr.add_lit, hf j (by omega), hx]
  have HON := hidM (strs_one us)
  have HLS : Hid ((strsV us).length = us.length) := by unfold Hid strsV; simp
  obtain ⟨news, hnw⟩ : ∃ n, strsV us = n := ⟨_, rfl⟩
  have HNS : Hid (news = strsV us) := hnw.symm
  rw [hus]
  rw [hnw] at HNW HON HLS
  clear hus hnw hf
  by_cases hlt : 40 < l.length
  · have g1 : decide ((40 : Int) < (l.length : Int)) = true := by simp; omega
    have HLU : Hid (us.length = 40) := by unfold Hid; rw [HLM.out]; omega
    have HLN : Hid (news.length = 40 * 1) := by unfold Hid; rw [HLS.out, HLU.out]
    have c0 : (40 : Int) ≤ (cap : Int) := by omega
    clear HLM HLS
    generalize l.length = n at *
    go_enter Tryd.func9, Tryd.ntmps9
    obtain ⟨i0, hi, hz0, hz1, hz2⟩ := info_parts info9
    go_wp2_with (at_builtin; refine wpList_append_own _ rfl _ _ 22 rfl (w.heap.size + 2) 9 i0 (.string .empty) 1 16 Tryd.underlying22 hi hz0 hz1 hz2 rfl (by decide) _ _ _ rfl (own_made2 w _ _) ⟨b, off, none⟩ 40 cap news rfl ?qc1 ?qc2 ?qc3 ?qc4 ?qc5 ?qc6 ?_)
    case qc1 => exact HLN.out
    case qc2 =>
      intro j u hj
      exact Lib.cell?_alloc_some _ (Lib.cell?_alloc_some _ (Lib.cell?_alloc_some _ (HNW.out j u hj)))
    case qc3 => exact HON.out
    case qc4 => unfold maxLen; omega
    case qc5 => omega
    case qc6 => simp
    intro v' w1 hown hgrow hnil
    have HB : Hid (Below (w.heap.size + 2) ((w.alloc (.cells #[.string t, .slice (some ⟨b, off, none⟩) 40 cap, .string awho, .int .i64 at_, .int .i64 az, .string cwho, .int .i64 ct, .int .i64 cz, .string m] 26)).alloc (.cells #[.string ⟨#[]⟩, .slice none 0 0, .string ⟨#[]⟩, .int .i64 0, .int .i64 0, .string ⟨#[]⟩, .int .i64 0, .int .i64 0, .string ⟨#[]⟩] 26)) w1) := grown_made2 hgrow
    have HC1 : Hid (w1.heap[w.heap.size]? = some (.cells #[.string t, .slice (some ⟨b, off, none⟩) 40 cap, .string awho, .int .i64 at_, .int .i64 az, .string cwho, .int .i64 ct, .int .i64 cz, .string m] 26 (0, 0))) := (HB.out.block _ (by omega)).trans (heap_alloc2_old w _ _)
    have HR1 : Hid (w1.heap[w.heap.size + 1]? = some (.cells #[.string ⟨#[]⟩, .slice none 0 0, .string ⟨#[]⟩, .int .i64 0, .int .i64 0, .string ⟨#[]⟩, .int .i64 0, .int .i64 0, .string ⟨#[]⟩] 26 (0, 0))) := (HB.out.block _ (by omega)).trans (heap_alloc2_new w _ _)
    have HBW : Hid (Below w.heap.size w w1) := (((Below.refl _ w).alloc (Nat.le_refl _) _).alloc (by simp) _).trans (HB.out.mono (by omega))
    have HO1 : Hid (OwnS w1 (w.heap.size + 2) v' us) := by
      have := hown
      rw [HNS.out] at this
      have hl := HLU.out
      unfold Hid OwnS
      rw [hl]
      simpa using this
    clear hown hgrow hnil HB HLN HNW HON HNS
    obtain ⟨va, vn, vc, hpv⟩ := HO1.out.slice
    subst hpv
    have cl : w1.cell? ⟨w.heap.size, 1, none⟩ = some (.slice (some ⟨b, off, none⟩) 40 cap) := by rw [cell_of_row w1 _ _ _ 26 (0, 0) HC1.out]; rfl
    have fl : w1.frozen? ⟨w.heap.size, 1, none⟩ = false := by simp [World.frozen?, HC1.out]
    go_upto_region 4 with fail
    have HSE : Hid (w1.setCell ⟨w.heap.size, 1, none⟩ (.slice va vn vc) = w1.setRow w.heap.size #[.string t, .slice va vn vc, .string awho, .int .i64 at_, .int .i64 az, .string cwho, .int .i64 ct, .int .i64 cz, .string m]) := setCell_eq_setRow w1 _ 1 _ 26 (0, 0) _ HC1.out
    rw [HSE.out]
    have HC2 : Hid ((w1.setRow w.heap.size #[.string t, .slice va vn vc, .string awho, .int .i64 at_, .int .i64 az, .string cwho, .int .i64 ct, .int .i64 cz, .string m]).heap[w.heap.size]? = some (.cells #[.string t, .slice va vn vc, .string awho, .int .i64 at_, .int .i64 az, .string cwho, .int .i64 ct, .int .i64 cz, .string m] 26 (0, 0))) := setRow_heap _ _ _ _ 26 _ HC1.out
    have HR2 : Hid ((w1.setRow w.heap.size #[.string t, .slice va vn vc, .string awho, .int .i64 at_, .int .i64 az, .string cwho, .int .i64 ct, .int .i64 cz, .string m]).heap[w.heap.size + 1]? = some (.cells #[.string ⟨#[]⟩, .slice none 0 0, .string ⟨#[]⟩, .int .i64 0, .int .i64 0, .string ⟨#[]⟩, .int .i64 0, .int .i64 0, .string ⟨#[]⟩] 26 (0, 0))) := (setRow_other w1 _ _ _ (by omega)).trans HR1.out
    have HO2 : Hid (OwnS (w1.setRow w.heap.size #[.string t, .slice va vn vc, .string awho, .int .i64 at_, .int .i64 az, .string cwho, .int .i64 ct, .int .i64 cz, .string m]) (w.heap.size + 2) (.slice va vn vc) us) := own_row HO1.out (by omega)
    have HB2 : Hid (Below w.heap.size w (w1.setRow w.heap.size #[.string t, .slice va vn vc, .string awho, .int .i64 at_, .int .i64 az, .string cwho, .int .i64 ct, .int .i64 cz, .string m])) := below_setRow HBW.out (Nat.le_refl _)
    clear HSE HC1 HR1 HO1 HBW cl fl
    generalize w1.setRow w.heap.size #[.string t, .slice va vn vc, .string awho, .int .i64 at_, .int .i64 az, .string cwho, .int .i64 ct, .int .i64 cz, .string m] = W2 at *
    clear w1
    obtain ⟨g1, hg1⟩ : ∃ X, w.heap.size = X := ⟨_, rfl⟩
    rw [hg1] at HC2 HR2 HO2 HB2 ⊢
    have k0 : W2.cell? ⟨g1, 0, none⟩ = some (.string t) := by rw [cell_of_row W2 _ _ _ 26 (0, 0) HC2.out]; rfl
    have k1 : W2.cell? ⟨g1, 1, none⟩ = some (.slice va vn vc) := by rw [cell_of_row W2 _ _ _ 26 (0, 0) HC2.out]; rfl
    have k2 : W2.cell? ⟨g1, 2, none⟩ = some (.string awho) := by rw [cell_of_row W2 _ _ _ 26 (0, 0) HC2.out]; rfl
    have k3 : W2.cell? ⟨g1, 3, none⟩ = some (.int .i64 at_) := by rw [cell_of_row W2 _ _ _ 26 (0, 0) HC2.out]; rfl
    have k4 : W2.cell? ⟨g1, 4, none⟩ = some (.int .i64 az) := by rw [cell_of_row W2 _ _ _ 26 (0, 0) HC2.out]; rfl
    have k5 : W2.cell? ⟨g1, 5, none⟩ = some (.string cwho) := by rw [cell_of_row W2 _ _ _ 26 (0, 0) HC2.out]; rfl
    have k6 : W2.cell? ⟨g1, 6, none⟩ = some (.int .i64 ct) := by rw [cell_of_row W2 _ _ _ 26 (0, 0) HC2.out]; rfl
    have k7 : W2.cell? ⟨g1, 7, none⟩ = some (.int .i64 cz) := by rw [cell_of_row W2 _ _ _ 26 (0, 0) HC2.out]; rfl
    have k8 : W2.cell? ⟨g1, 8, none⟩ = some (.string m) := by rw [cell_of_row W2 _ _ _ 26 (0, 0) HC2.out]; rfl
    go_wp2_with (refine wpList_store_row rfl 26 (.tmp 2) (.tmp 16) rfl (g1 + 1) #[.string t, .slice va vn vc, .string awho, .int .i64 at_, .int .i64 az, .string cwho, .int .i64 ct, .int .i64 cz, .string m] rfl rfl 26 #[.string ⟨#[]⟩, .slice none 0 0, .string ⟨#[]⟩, .int .i64 0, .int .i64 0, .string ⟨#[]⟩, .int .i64 0, .int .i64 0, .string ⟨#[]⟩] HR2.out size26 rfl (ones26 _ _ _ _ _ _ _ _ _ _ _) ?_)
    subst hg1
    exact bodyPost_ret (results_cell_row rfl _ _ (w.heap.size + 1) 26 _ (0, 0) _ rfl (setRow_heap _ _ _ _ 26 _ HR2.out) Tryd.underlying26 rfl size26) rfl ⟨_, rfl, own_mono (own_row HO2.out (by omega)) (by omega), below_setRow HB2.out (by omega)⟩
  · have g1 : decide ((40 : Int) < (l.length : Int)) = false := by simp; omega
    have HLU : Hid (us.length = l.length) := by unfold Hid; rw [HLM.out]; omega
    have HLN : Hid (news.length = l.length * 1) := by unfold Hid; rw [HLS.out, HLU.out]; omega
    clear HLM HLS
    generalize l.length = n at *
    go_enter Tryd.func9, Tryd.ntmps9
    obtain ⟨i0, hi, hz0, hz1, hz2⟩ := info_parts info9
    go_wp2_with (at_builtin; refine wpList_append_own _ rfl _ _ 22 rfl (w.heap.size + 2) 9 i0 (.string .empty) 1 16 Tryd.underlying22 hi hz0 hz1 hz2 rfl (by decide) _ _ _ rfl (own_made2 w _ _) ⟨b, off, none⟩ n cap news rfl ?qc1 ?qc2 ?qc3 ?qc4 ?qc5 ?qc6 ?_)
    case qc1 => exact HLN.out
    case qc2 =>
      intro j u hj
      exact Lib.cell?_alloc_some _ (Lib.cell?_alloc_some _ (Lib.cell?_alloc_some _ (HNW.out j u hj)))
    case qc3 => exact HON.out
    case qc4 => unfold maxLen; omega
    case qc5 => omega
    case qc6 => simp
    intro v' w1 hown hgrow hnil
    have HB : Hid (Below (w.heap.size + 2) ((w.alloc (.cells #[.string t, .slice (some ⟨b, off, none⟩) n cap, .string awho, .int .i64 at_, .int .i64 az, .string cwho, .int .i64 ct, .int .i64 cz, .string m] 26)).alloc (.cells #[.string ⟨#[]⟩, .slice none 0 0, .string ⟨#[]⟩, .int .i64 0, .int .i64 0, .string ⟨#[]⟩, .int .i64 0, .int .i64 0, .string ⟨#[]⟩] 26)) w1) := grown_made2 hgrow
    have HC1 : Hid (w1.heap[w.heap.size]? = some (.cells #[.string t, .slice (some ⟨b, off, none⟩) n cap, .string awho, .int .i64 at_, .int .i64 az, .string cwho, .int .i64 ct, .int .i64 cz, .string m] 26 (0, 0))) := (HB.out.block _ (by omega)).trans (heap_alloc2_old w _ _)
    have HR1 : Hid (w1.heap[w.heap.size + 1]? = some (.cells #[.string ⟨#[]⟩, .slice none 0 0, .string ⟨#[]⟩, .int .i64 0, .int .i64 0, .string ⟨#[]⟩, .int .i64 0, .int .i64 0, .string ⟨#[]⟩] 26 (0, 0))) := (HB.out.block _ (by omega)).trans (heap_alloc2_new w _ _)
    have HBW : Hid (Below w.heap.size w w1) := (((Below.refl _ w).alloc (Nat.le_refl _) _).alloc (by simp) _).trans (HB.out.mono (by omega))
    have HO1 : Hid (OwnS w1 (w.heap.size + 2) v' us) := by
      have := hown
      rw [HNS.out] at this
      have hl := HLU.out
      unfold Hid OwnS
      rw [hl]
      simpa using this
    clear hown hgrow hnil HB HLN HNW HON HNS
    obtain ⟨va, vn, vc, hpv⟩ := HO1.out.slice
    subst hpv
    have cl : w1.cell? ⟨w.heap.size, 1, none⟩ = some (.slice (some ⟨b, off, none⟩) n cap) := by rw [cell_of_row w1 _ _ _ 26 (0, 0) HC1.out]; rfl
    have fl : w1.frozen? ⟨w.heap.size, 1, none⟩ = false := by simp [World.frozen?, HC1.out]
    go_upto_region 4 with fail
    have HSE : Hid (w1.setCell ⟨w.heap.size, 1, none⟩ (.slice va vn vc) = w1.setRow w.heap.size #[.string t, .slice va vn vc, .string awho, .int .i64 at_, .int .i64 az, .string cwho, .int .i64 ct, .int .i64 cz, .string m]) := setCell_eq_setRow w1 _ 1 _ 26 (0, 0) _ HC1.out
    rw [HSE.out]
    have HC2 : Hid ((w1.setRow w.heap.size #[.string t, .slice va vn vc, .string awho, .int .i64 at_, .int .i64 az, .string cwho, .int .i64 ct, .int .i64 cz, .string m]).heap[w.heap.size]? = some (.cells #[.string t, .slice va vn vc, .string awho, .int .i64 at_, .int .i64 az, .string cwho, .int .i64 ct, .int .i64 cz, .string m] 26 (0, 0))) := setRow_heap _ _ _ _ 26 _ HC1.out
    have HR2 : Hid ((w1.setRow w.heap.size #[.string t, .slice va vn vc, .string awho, .int .i64 at_, .int .i64 az, .string cwho, .int .i64 ct, .int .i64 cz, .string m]).heap[w.heap.size + 1]? = some (.cells #[.string ⟨#[]⟩, .slice none 0 0, .string ⟨#[]⟩, .int .i64 0, .int .i64 0, .string ⟨#[]⟩, .int .i64 0, .int .i64 0, .string ⟨#[]⟩] 26 (0, 0))) := (setRow_other w1 _ _ _ (by omega)).trans HR1.out
    have HO2 : Hid (OwnS (w1.setRow w.heap.size #[.string t, .slice va vn vc, .string awho, .int .i64 at_, .int .i64 az, .string cwho, .int .i64 ct, .int .i64 cz, .string m]) (w.heap.size + 2) (.slice va vn vc) us) := own_row HO1.out (by omega)
    have HB2 : Hid (Below w.heap.size w (w1.setRow w.heap.size #[.string t, .slice va vn vc, .string awho, .int .i64 at_, .int .i64 az, .string cwho, .int .i64 ct, .int .i64 cz, .string m])) := below_setRow HBW.out (Nat.le_refl _)
    clear HSE HC1 HR1 HO1 HBW cl fl
    generalize w1.setRow w.heap.size #[.string t, .slice va vn vc, .string awho, .int .i64 at_, .int .i64 az, .string cwho, .int .i64 ct, .int .i64 cz, .string m] = W2 at *
    clear w1
    obtain ⟨g1, hg1⟩ : ∃ X, w.heap.size = X := ⟨_, rfl⟩
    rw [hg1] at HC2 HR2 HO2 HB2 ⊢
    have k0 : W2.cell? ⟨g1, 0, none⟩ = some (.string t) := by rw [cell_of_row W2 _ _ _ 26 (0, 0) HC2.out]; rfl
    have k1 : W2.cell? ⟨g1, 1, none⟩ = some (.slice va vn vc) := by rw [cell_of_row W2 _ _ _ 26 (0, 0) HC2.out]; rfl
    have k2 : W2.cell? ⟨g1, 2, none⟩ = some (.string awho) := by rw [cell_of_row W2 _ _ _ 26 (0, 0) HC2.out]; rfl
    have k3 : W2.cell? ⟨g1, 3, none⟩ = some (.int .i64 at_) := by rw [cell_of_row W2 _ _ _ 26 (0, 0) HC2.out]; rfl
    have k4 : W2.cell? ⟨g1, 4, none⟩ = some (.int .i64 az) := by rw [cell_of_row W2 _ _ _ 26 (0, 0) HC2.out]; rfl
    have k5 : W2.cell? ⟨g1, 5, none⟩ = some (.string cwho) := by rw [cell_of_row W2 _ _ _ 26 (0, 0) HC2.out]; rfl
    have k6 : W2.cell? ⟨g1, 6, none⟩ = some (.int .i64 ct) := by rw [cell_of_row W2 _ _ _ 26 (0, 0) HC2.out]; rfl
    have k7 : W2.cell? ⟨g1, 7, none⟩ = some (.int .i64 cz) := by rw [cell_of_row W2 _ _ _ 26 (0, 0) HC2.out]; rfl
    have k8 : W2.cell? ⟨g1, 8, none⟩ = some (.string m) := by rw [cell_of_row W2 _ _ _ 26 (0, 0) HC2.out]; rfl
    go_wp2_with (refine wpList_store_row rfl 26 (.tmp 2) (.tmp 16) rfl (g1 + 1) #[.string t, .slice va vn vc, .string awho, .int .i64 at_, .int .i64 az, .string cwho, .int .i64 ct, .int .i64 cz, .string m] rfl rfl 26 #[.string ⟨#[]⟩, .slice none 0 0, .string ⟨#[]⟩, .int .i64 0, .int .i64 0, .string ⟨#[]⟩, .int .i64 0, .int .i64 0, .string ⟨#[]⟩] HR2.out size26 rfl (ones26 _ _ _ _ _ _ _ _ _ _ _) ?_)
    subst hg1
    exact bodyPost_ret (results_cell_row rfl _ _ (w.heap.size + 1) 26 _ (0, 0) _ rfl (setRow_heap _ _ _ _ 26 _ HR2.out) Tryd.underlying26 rfl size26) rfl ⟨_, rfl, own_mono (own_row HO2.out (by omega)) (by omega), below_setRow HB2.out (by omega)⟩
theorem few_any (t : ByteArray) (pv : Value) (l : List ByteArray) (a c : Sb) (m : ByteArray) (w : World) (h : StrsO w pv l) :
    Calls Tryd.prog 9 #[.agg (c26 t pv a c m)] w fun e w' => FewPost t (l.take 40) a c m w e w' := by
  rcases h with ⟨rfl, rfl⟩ | ⟨ad, cap, rfl, rfl⟩ | ⟨b, off, cap, rfl, hb, hcap, hf⟩
  · exact few_none t a c m w
  · exact few_empty t ad cap a c m w
  · exact few_at t b off cap l a c m w hcap hf
end Go.Proofs.YtbghailohnppmaaDoor
