/-
  RefsNames, the law's walk.
  The way to the card where the road reads a variable that no laid table ties: the world that the card hands on is of its shape, and this says what the variable holds.
  A heap into which the listed tables are laid meets the rows' condition.
-/
import Derived.Test.YtjoomlpocpdonaaDoorJRfW
import Derived.Test.YtjoomlpocpdonaaDoorJRfB
import Derived.Handed
import Derived.SizedLaws
import Derived.ChangeOld
import Derived.ShutString
import Derived.Shelf.Vars
import Derived.Test.YtjoomlpocpdonaaDoorRows
import Derived.ProofKit
import Derived.Lay
import Derived.LaidMore
import Derived.OpenShut
import Derived.Stop.Joined
import Derived.Stop.LaidErr
import Derived.Lib.LaidTab
namespace Go.Proofs.YtjoomlpocpdonaaDoor
open Go.RowKit

set_option maxRecDepth 100000 in
set_option maxHeartbeats 3200000 in
theorem names_walk (a b : ByteArray) (m : Int) (w : World) (hm : w.cell? ⟨0, 0, none⟩ = some (.int .i64 m)) (ha : a.size ≤ 140737488355328) (hb : b.size ≤ 140737488355328) :
    Calls Tryd.prog 4 #[.string a, .string b] w fun e w' => e = .returned (.bool true) ∧ Below w.heap.size w w' := by
  have h0lt : 0 < w.heap.size := by
    rcases Nat.lt_or_ge 0 w.heap.size with h | h
    · exact h
    · unfold World.cell? at hm
      rw [Array.getElem?_eq_none (by simpa using h)] at hm
      cases hm
  have HG : Hid (GOk m w) := ⟨h0lt, hm⟩
  clear hm h0lt
  obtain ⟨A, hA⟩ : ∃ A, (⟨#[114, 101, 102, 115, 47]⟩ : ByteArray) ++ a = A := ⟨_, rfl⟩
  obtain ⟨B, hB⟩ : ∃ B, (⟨#[114, 101, 102, 115, 47]⟩ : ByteArray) ++ b = B := ⟨_, rfl⟩
  have la : A.data.toList = folderL ++ a.data.toList := by rw [← hA, ByteArray.data_append, Array.toList_append]; rfl
  have lb : B.data.toList = folderL ++ b.data.toList := by rw [← hB, ByteArray.data_append, Array.toList_append]; rfl
  have n1 : ¬ (9223372036854775807 : Nat) < 5 + a.size := by omega
  have n2 : ¬ (9223372036854775807 : Nat) < 5 + b.size := by omega
  have HNA : Hid (∀ W, GOk m W → Calls Tryd.prog 9 #[.string A] W fun e w' => e = .returned (.bool (nameL A.data.toList)) ∧ Below W.heap.size W w') := fun W h => name_any A m W h
  have HNB : Hid (∀ W, GOk m W → Calls Tryd.prog 9 #[.string B] W fun e w' => e = .returned (.bool (nameL B.data.toList)) ∧ Below W.heap.size W w') := fun W h => name_any B m W h
  have HRA : Hid (∀ W, Calls Tryd.prog 10 #[.string A] W fun e w' => e = .returned (.bool (nameL A.data.toList)) ∧ Below W.heap.size W w') := fun W => rname_any A W
  have HAW : Hid (∀ W, GOk m W → Calls Tryd.prog 5 #[] W fun e w' => e = .returned (.bool true) ∧ Below W.heap.size W w') := fun W h => awake_any m W h
  cases hna : nameL A.data.toList with
  | false =>
    rw [hna] at HNA HRA
    clear la lb ha hb hna HNB hB
    go_enter Tryd.func4, Tryd.ntmps4
    go_wp2_with fail
    refine (HNA.out _ HG.out).mono ?_
    rintro _ w1 ⟨rfl, hb1⟩
    have HB1 := hidM hb1
    clear hb1
    go_wp2_with fail
    refine (HAW.out _ (HG.out.below HB1.out)).mono ?_
    rintro _ w2 ⟨rfl, hb2⟩
    have HB2 := hidM (HB1.out.trans (hb2.mono HB1.out.size))
    clear hb2
    go_wp2_with fail
    refine (HRA.out _).mono ?_
    rintro _ w3 ⟨rfl, hb3⟩
    have HB3 := hidM (HB2.out.trans (hb3.mono HB2.out.size))
    clear hb3
    go_wp2_with fail
    refine (HNA.out _ (HG.out.below HB3.out)).mono ?_
    rintro _ w4 ⟨rfl, hb4⟩
    have HB4 := hidM (HB3.out.trans (hb4.mono HB3.out.size))
    clear hb4
    go_wp2_with fail
    go_ret
    exact ⟨rfl, HB4.out⟩
  | true =>
  rw [hna] at HNA HRA
  cases hnb : nameL B.data.toList with
  | false =>
    rw [hnb] at HNB
    clear la lb ha hb hna hnb
    go_enter Tryd.func4, Tryd.ntmps4
    go_wp2_with fail
    refine (HNA.out _ HG.out).mono ?_
    rintro _ w1 ⟨rfl, hb1⟩
    have HB1 := hidM hb1
    clear hb1
    go_wp2_with fail
    refine (HNB.out _ (HG.out.below HB1.out)).mono ?_
    rintro _ wb ⟨rfl, hbb⟩
    have HBB := hidM (HB1.out.trans (hbb.mono HB1.out.size))
    clear hbb
    go_wp2_with fail
    refine (HAW.out _ (HG.out.below HBB.out)).mono ?_
    rintro _ w2 ⟨rfl, hb2⟩
    have HB2 := hidM (HBB.out.trans (hb2.mono HBB.out.size))
    clear hb2
    go_wp2_with fail
    refine (HRA.out _).mono ?_
    rintro _ w3 ⟨rfl, hb3⟩
    have HB3 := hidM (HB2.out.trans (hb3.mono HB2.out.size))
    clear hb3
    go_wp2_with fail
    refine (HNA.out _ (HG.out.below HB3.out)).mono ?_
    rintro _ w4 ⟨rfl, hb4⟩
    have HB4 := hidM (HB3.out.trans (hb4.mono HB3.out.size))
    clear hb4
    go_wp2_with fail
    go_ret
    exact ⟨rfl, HB4.out⟩
  | true =>
  rw [hnb] at HNB
  have sa : A.size ≤ 200 := by rw [← sl_len]; exact name_size hna
  have sb : B.size ≤ 200 := by rw [← sl_len]; exact name_size hnb
  have sA : A.size = a.size + 5 := by rw [← sl_len, la, List.length_append, sl_len]; simp [folderL]; omega
  have sB : B.size = b.size + 5 := by rw [← sl_len, lb, List.length_append, sl_len]; simp [folderL]; omega
  have za : a.size ≤ 195 := by omega
  have zb : b.size ≤ 195 := by omega
  obtain ⟨C1, hC1⟩ : ∃ C1, A ++ (⟨#[47]⟩ : ByteArray) = C1 := ⟨_, rfl⟩
  obtain ⟨C, hC⟩ : ∃ C, C1 ++ b = C := ⟨_, rfl⟩
  obtain ⟨E, hE⟩ : ∃ E, A ++ (⟨#[46, 46]⟩ : ByteArray) = E := ⟨_, rfl⟩
  obtain ⟨F, hF⟩ : ∃ F, A ++ (⟨#[46, 108, 111, 99, 107]⟩ : ByteArray) = F := ⟨_, rfl⟩
  have lC : C.data.toList = folderL ++ a.data.toList ++ 47 :: b.data.toList := by
    rw [← hC, ← hC1, ByteArray.data_append, Array.toList_append, ByteArray.data_append, Array.toList_append, la]
    simp
  have lE : E.data.toList = folderL ++ a.data.toList ++ [46, 46] := by rw [← hE, ByteArray.data_append, Array.toList_append, la]
  have lF : F.data.toList = folderL ++ a.data.toList ++ lockL := by rw [← hF, ByteArray.data_append, Array.toList_append, la]; rfl
  have z1 : C1.size = A.size + 1 := by rw [← hC1, ByteArray.size_append]; rfl
  have hnc : nameL C.data.toList = decide (a.size + b.size + 6 ≤ 200) := by
    rw [lC, name_joined (by rw [← la]; exact hna) (by rw [← lb]; exact hnb), sl_len, sl_len]
  have n3 : ¬ (9223372036854775807 : Nat) < A.size + 1 := by omega
  have n4 : ¬ (9223372036854775807 : Nat) < C1.size + b.size := by omega
  have n5 : ¬ (9223372036854775807 : Nat) < A.size + 2 := by omega
  have n6 : ¬ (9223372036854775807 : Nat) < A.size + 5 := by omega
  have HNC : Hid (∀ W, GOk m W → Calls Tryd.prog 9 #[.string C] W fun e w' => e = .returned (.bool (decide (a.size + b.size + 6 ≤ 200))) ∧ Below W.heap.size W w') := fun W h => by rw [← hnc]; exact name_any C m W h
  have HNE : Hid (∀ W, GOk m W → Calls Tryd.prog 9 #[.string E] W fun e w' => e = .returned (.bool false) ∧ Below W.heap.size W w') := fun W h => by rw [← name_dots a.data.toList, ← lE]; exact name_any E m W h
  have HNF : Hid (∀ W, GOk m W → Calls Tryd.prog 9 #[.string F] W fun e w' => e = .returned (.bool false) ∧ Below W.heap.size W w') := fun W h => by rw [← name_lock a.data.toList, ← lF]; exact name_any F m W h
  clear la lb lC lE lF hna hnb hnc sA sB sa sb z1 ha hb HRA
  obtain ⟨g, hg⟩ : ∃ g, decide (a.size + b.size + 6 ≤ 200) = g := ⟨_, rfl⟩
  have hg2 : decide ((a.size : Int) + (b.size : Int) + 6 ≤ 200) = g := by
    rw [← hg]
    exact decide_eq_decide.2 ⟨fun h => by omega, fun h => by omega⟩
  rw [hg] at HNC
  clear hg
  cases g with
  | true =>
    have hg3 : (a.size : Int) + (b.size : Int) + 6 ≤ 200 := of_decide_eq_true hg2
    go_enter Tryd.func4, Tryd.ntmps4
    go_wp2_with fail
    refine (HNA.out _ HG.out).mono ?_
    rintro _ w1 ⟨rfl, hb1⟩
    have HB1 := hidM hb1
    clear hb1
    go_wp2_with fail
    refine (HNB.out _ (HG.out.below HB1.out)).mono ?_
    rintro _ wb ⟨rfl, hbb⟩
    have HBB := hidM (HB1.out.trans (hbb.mono HB1.out.size))
    clear hbb
    go_wp2_with fail
    refine (HAW.out _ (HG.out.below HBB.out)).mono ?_
    rintro _ w2 ⟨rfl, hb2⟩
    have HB2 := hidM (HBB.out.trans (hb2.mono HBB.out.size))
    clear hb2
    go_wp2_with fail
    refine (HNC.out _ (HG.out.below HB2.out)).mono ?_
    rintro _ w3 ⟨rfl, hb3⟩
    have HB3 := hidM (HB2.out.trans (hb3.mono HB2.out.size))
    clear hb3
    go_wp2_with fail
    refine (HNE.out _ (HG.out.below HB3.out)).mono ?_
    rintro _ w4 ⟨rfl, hb4⟩
    have HB4 := hidM (HB3.out.trans (hb4.mono HB3.out.size))
    clear hb4
    go_wp2_with fail
    refine (HNF.out _ (HG.out.below HB4.out)).mono ?_
    rintro _ w5 ⟨rfl, hb5⟩
    have HB5 := hidM (HB4.out.trans (hb5.mono HB4.out.size))
    clear hb5
    go_wp2_with fail
    go_ret
    exact ⟨rfl, HB5.out⟩
  | false =>
    have hg3 : ¬ (a.size : Int) + (b.size : Int) + 6 ≤ 200 := of_decide_eq_false hg2
    go_enter Tryd.func4, Tryd.ntmps4
    go_wp2_with fail
    refine (HNA.out _ HG.out).mono ?_
    rintro _ w1 ⟨rfl, hb1⟩
    have HB1 := hidM hb1
    clear hb1
    go_wp2_with fail
    refine (HNB.out _ (HG.out.below HB1.out)).mono ?_
    rintro _ wb ⟨rfl, hbb⟩
    have HBB := hidM (HB1.out.trans (hbb.mono HB1.out.size))
    clear hbb
    go_wp2_with fail
    refine (HAW.out _ (HG.out.below HBB.out)).mono ?_
    rintro _ w2 ⟨rfl, hb2⟩
    have HB2 := hidM (HBB.out.trans (hb2.mono HBB.out.size))
    clear hb2
    go_wp2_with fail
    refine (HNC.out _ (HG.out.below HB2.out)).mono ?_
    rintro _ w3 ⟨rfl, hb3⟩
    have HB3 := hidM (HB2.out.trans (hb3.mono HB2.out.size))
    clear hb3
    go_wp2_with fail
    refine (HNE.out _ (HG.out.below HB3.out)).mono ?_
    rintro _ w4 ⟨rfl, hb4⟩
    have HB4 := hidM (HB3.out.trans (hb4.mono HB3.out.size))
    clear hb4
    go_wp2_with fail
    refine (HNF.out _ (HG.out.below HB4.out)).mono ?_
    rintro _ w5 ⟨rfl, hb5⟩
    have HB5 := hidM (HB4.out.trans (hb5.mono HB4.out.size))
    clear hb5
    go_wp2_with fail
    go_ret
    exact ⟨rfl, HB5.out⟩
end Go.Proofs.YtjoomlpocpdonaaDoor
namespace Go.Proofs.YtjoomlpocpdonaaDoor
open Go.ChangeShapes Go.WideShapes Go.WideMaps Go.WideElems

def MI (w : World) : Prop := ∃ m, w.cell? ⟨0, 0, none⟩ = some (.int .i64 m)
theorem mi_of_open {w : World} (h : w.ShapedOpen Tryd.prog) : MI w :=
  cell_of_shapedOpen_int (P := Tryd.prog) (g := 0) (t := 3) (zero := #[.int .i64 0]) (k := .i64) h (of_decide_eq_true (by kernel_rfl)) (by kernel_rfl) rfl (by kernel_rfl) (by kernel_rfl) (by kernel_rfl)

theorem handed_open {H : Type} {enc : TypeId × Value → H} {a : Assume} {C : Checked} {os : Os} {f : FuncId} {fn : Func} {s : ChangeSpec} {conds : List PathCond} {apart fresh handsOn again : Bool} {X : World → Array Value → Prop}
    (hX : ∀ (w w' : World) (args : Array Value), w.heap = w'.heap → X w args → X w' args)
    (own : ownKnob C.prog.godebug = none) (started : os.Started) (noInit : C.prog.inits.idxOf? f = none) (hfn : C.prog.funcs[f]? = some fn)
    (wit : ∃ (w : World) (tape : Tape) (i : Input), w.os = os ∧ (w.forCall tape i).Shaped C.prog ∧ i.vars = [] ∧ Input.okWide C.prog (w.forCall tape i) .any w.heap.size f i ∧
      ((s.pre enc C.prog fn conds apart (w.forCall tape i).memory i.args ∧ X (w.forCall tape i).memory i.args) ∧ sizedMet enc C.prog fn (OpenSpec.ofChange s) apart (w.forCall tape i).memory i.args) ∧ a.holds C.prog (lone (Frame.enter C.prog f i.args .normal) [] (w.forCall tape i)))
    (K : ∀ (W : World) (base : Nat) (args : Array Value) (ds gs : List (DataW H)) (before : List MemPlace), W.ShapedOpen C.prog →
      (∀ (j : Nat) t v, fn.params[j]? = some t → args[j]? = some v → Value.okWide C.prog W .any base t v) →
      DataW.Whole enc C.prog fn.params.toList s.vars apart W args.toList ds gs before →
      conds.all (PathCond.test C.prog ⟨fn.params.toList, ds, s.plain.varTypes C.prog, gs⟩) = true →
      (DataW.weightsEach C.prog (fn.params.toList ++ s.plain.varTypes C.prog) (ds ++ gs)).all (· ≤ reachBytes) = true → X W args →
      Calls C.prog f args W fun e W' => ∃ v, e = .returned v ∧ s.post enc C.prog fn apart fresh handsOn again W args v W') :
    ReturnsInHanded a C os f .any (fun w args => (s.pre enc C.prog fn conds apart w args ∧ X w args) ∧ sizedMet enc C.prog fn (OpenSpec.ofChange s) apart w args) (s.post enc C.prog fn apart fresh handsOn again) := by
  refine returnsInHanded_of_calls own started noInit wit fun w tape i _ hso _ hok hpre _ => ?_
  obtain ⟨_,_,_, g, hg, _,_,_,_, hval⟩ := hok
  obtain rfl : g = fn := Option.some.inj (hg.symm.trans hfn)
  obtain ⟨⟨⟨ds, gs, before, hw, hc⟩, hx⟩, hz⟩ := hpre
  refine (K (w.forCall tape i) w.heap.size i.args ds gs before hso hval (DataW.Whole.of_heap (w' := w.forCall tape i) (by rfl) hw) hc (hz.weights hw) (hX _ _ _ (by rfl) hx)).mono fun e W' ⟨v, he, hp⟩ => ?_
  subst he
  exact ChangeSpec.post_blind hp
end Go.Proofs.YtjoomlpocpdonaaDoor
namespace Go.Proofs.YtjoomlpocpdonaaDoor
open Go.ChangeShapes Go.WideShapes Go.ChangeAt Go.WideMaps Go.WideElems Go.RowKit

def laidT : List (String × DataW Unit) := [("unicode/utf8.acceptRanges", Rows.laid_unicode_utf8_acceptRanges), ("unicode/utf8.first", Rows.laid_unicode_utf8_first)]
theorem own : ownKnob Tryd.prog.godebug = none := by kernel_rfl
theorem laidT_met (os : Os) (args : Array Value) : laidMetH Tryd.prog laidT ((World.laidAll Tryd.prog os laidT).forCall (fun _ _ => 0) ⟨#[], args, []⟩).memory := by
  rw [MakeChecks.laidMetH_plain _ _ _ (by kernel_rfl)]; exact laidMet_laidAll _ (by kernel_rfl) (by kernel_rfl)
end Go.Proofs.YtjoomlpocpdonaaDoor
