/-
  ModfilePaths: the law's walk.
  The way to the card where the road reads a variable that no laid table ties: the world that the card hands on is of its shape, and this says what the variable holds.
-/
import Derived.Test.YtgkjmmfpbcgmgaaDoorJPthG
import Derived.Test.YtgkjmmfpbcgmgaaDoorPthH
import Derived.Test.YtgkjmmfpbcgmgaaDoorJPthD
import Derived.Handed
import Derived.SizedLaws
import Derived.ChangeOld
import Derived.ShutString
import Derived.Shelf.Vars
namespace Go.Proofs.YtgkjmmfpbcgmgaaDoor
open Go.RowKit

set_option maxHeartbeats 2000000 in
set_option maxRecDepth 100000 in
theorem paths_walk (s : ByteArray) (m : Int) (w : World) (hm : w.cell? ⟨0, 0, none⟩ = some (.int .i64 m)) (hsz : s.size ≤ 140737488355328) :
    Calls Tryd.prog 4 #[.string s] w fun e w' => e = .returned (.bool true) ∧ Below w.heap.size w w' := by
  have h0lt : 0 < w.heap.size := lt_of_cell hm
  have HMB : Hid (∀ V, Below w.heap.size w V → V.cell? ⟨0, 0, none⟩ = some (.int .i64 m)) := fun V hV => (hV.cell (p := ⟨0, 0, none⟩) h0lt).trans hm
  have HEND : Hid (∀ V, Below w.heap.size w V → Calls Tryd.prog 13 #[] V fun e w' => e = .returned (.bool true) ∧ Below w.heap.size w w') := fun V hV => (awake_any V).mono fun e w' ⟨he, hb⟩ => ⟨he, hV.trans (hb.mono hV.size)⟩
  have H16 : Hid (∀ V, Below w.heap.size w V → Calls Tryd.prog 16 #[.string s] V fun e w' => e = .returned (.bool (pathL s.data.toList)) ∧ Below w.heap.size w w') := fun V hV => (path_any s V).mono fun e w' ⟨he, hb⟩ => ⟨he, hV.trans (hb.mono hV.size)⟩
  have H15 : Hid (∀ V, Below w.heap.size w V → Calls Tryd.prog 15 #[.string s] V fun e w' => e = .returned (.bool (pathL s.data.toList)) ∧ Below w.heap.size w w') := fun V hV => (rpath_any s V).mono fun e w' ⟨he, hb⟩ => ⟨he, hV.trans (hb.mono hV.size)⟩
  have H17 : Hid (∀ V, Below w.heap.size w V → Calls Tryd.prog 17 #[.string s] V fun e w' => e = .returned (.bool (fileL s.data.toList)) ∧ Below w.heap.size w w') := fun V hV => (filePath_any s m V (HMB.out V hV)).mono fun e w' ⟨he, hb⟩ => ⟨he, hV.trans (hb.mono hV.size)⟩
  have H18 : Hid (∀ V, Below w.heap.size w V → Calls Tryd.prog 18 #[.string s] V fun e w' => e = .returned (.bool (fileL s.data.toList)) ∧ Below w.heap.size w w') := fun V hV => (rfilePath_any s V).mono fun e w' ⟨he, hb⟩ => ⟨he, hV.trans (hb.mono hV.size)⟩
  have H19 := hidM (fun V => plain_mod_any s V hsz)
  have HMP := hidM (mod_plain s.data.toList)
  have HPL := hidM (plain_list s)
  have HPS : Hid (pathL s.data.toList = true → s.size ≤ 200) := fun h => by have := (path_parts h).1; rw [sl_len] at this; exact this
  unfold plainB at H19 HPL
  obtain ⟨Q1, h1⟩ : ∃ Q1, (⟨#[109, 111, 100, 117, 108, 101, 32]⟩ : ByteArray) ++ s = Q1 := ⟨_, rfl⟩
  have hz1 : Q1.size = 7 + s.size := by rw [← h1, ByteArray.size_append]; rfl
  have e1 : ¬ (9223372036854775807 : Nat) < 7 + s.size := by omega
  have e2 : ¬ (9223372036854775807 : Nat) < Q1.size + 1 := by omega
  rw [h1] at H19 HPL
  obtain ⟨Q2, h2⟩ : ∃ Q2, Q1 ++ (⟨#[10]⟩ : ByteArray) = Q2 := ⟨_, rfl⟩
  rw [h2] at H19 HPL
  have hz2 : Q2.size = Q1.size + 1 := by rw [← h2, ByteArray.size_append]; rfl
  have H11 : Hid (pathL s.data.toList = true → ∀ V, Below w.heap.size w V → Calls Tryd.prog 11 #[.string Q2] V fun e w' => e = .returned (.tuple #[.string s, .int .i64 0, .int .i64 0]) ∧ Below w.heap.size w w') := by
    intro hp V hV
    have h := module_any Q2 V (by have := HPS.out hp; omega)
    unfold ModQ at h
    rw [HPL.out, HMP.out hp] at h
    exact h.mono fun e w' ⟨he, hb⟩ => ⟨he, hV.trans (hb.mono hV.size)⟩
  have HZ := hidM (And.intro hz1 hz2)
  clear hz1 hz2 HPL HMP HPS hm
  have HB0 : Hid (Below w.heap.size w w) := Below.refl _ _
  generalize fileL s.data.toList = F at *
  cases hR : pathL s.data.toList with
  | true =>
    have H11b := hidM (H11.out hR)
    rw [hR] at H15 H16
    clear hR H11
    cases F
    all_goals
      go_enter Tryd.func4, Tryd.ntmps4
      go_wp2_with fail
      refine (H15.out _ HB0.out).mono ?_
      rintro _ w1 ⟨rfl, hb1⟩
      have HB1 := hidM hb1
      clear hb1
      go_wp2_with fail
      refine (HEND.out _ HB1.out).mono ?_
      rintro _ w2 ⟨rfl, hb2⟩
      have HB2 := hidM hb2
      clear hb2
      go_wp2_with fail
      refine (H16.out _ HB2.out).mono ?_
      rintro _ w3 ⟨rfl, hb3⟩
      have HB3 := hidM hb3
      clear hb3
      go_wp2_with fail
      refine (H17.out _ HB3.out).mono ?_
      rintro _ w4 ⟨rfl, hb4⟩
      have HB4 := hidM hb4
      clear hb4
      go_wp2_with fail
      refine (H18.out _ HB4.out).mono ?_
      rintro _ w5 ⟨rfl, hb5⟩
      have HB5 := hidM hb5
      clear hb5
      go_wp2_with fail
      refine (H19.out _).mono ?_
      rintro _ w6 ⟨rfl, hw6⟩
      rw [hw6]
      clear hw6
      go_wp2_with fail
      refine (H19.out _).mono ?_
      rintro _ w7 ⟨rfl, hw7⟩
      rw [hw7]
      clear hw7
      go_wp2_with fail
      refine (H11b.out _ HB5.out).mono ?_
      rintro _ w8 ⟨rfl, hb8⟩
      go_wp2
      go_ret
      exact ⟨rfl, hb8⟩
  | false =>
    rw [hR] at H15 H16
    clear hR H11
    cases F
    all_goals
      go_enter Tryd.func4, Tryd.ntmps4
      go_wp2_with fail
      refine (H15.out _ HB0.out).mono ?_
      rintro _ w1 ⟨rfl, hb1⟩
      have HB1 := hidM hb1
      clear hb1
      go_wp2_with fail
      refine (HEND.out _ HB1.out).mono ?_
      rintro _ w2 ⟨rfl, hb2⟩
      have HB2 := hidM hb2
      clear hb2
      go_wp2_with fail
      refine (H16.out _ HB2.out).mono ?_
      rintro _ w3 ⟨rfl, hb3⟩
      have HB3 := hidM hb3
      clear hb3
      go_wp2_with fail
      refine (H17.out _ HB3.out).mono ?_
      rintro _ w4 ⟨rfl, hb4⟩
      have HB4 := hidM hb4
      clear hb4
      go_wp2_with fail
      refine (H18.out _ HB4.out).mono ?_
      rintro _ w5 ⟨rfl, hb5⟩
      have HB5 := hidM hb5
      clear hb5
      go_wp2_with fail
      refine (H19.out _).mono ?_
      rintro _ w6 ⟨rfl, hw6⟩
      rw [hw6]
      clear hw6
      go_wp2
      go_ret
      exact ⟨rfl, HB5.out⟩
end Go.Proofs.YtgkjmmfpbcgmgaaDoor
namespace Go.Proofs.YtgkjmmfpbcgmgaaDoor
open Go.ChangeShapes Go.WideShapes Go.WideMaps Go.WideElems

def MI (w : World) : Prop := ∃ m, w.cell? ⟨0, 0, none⟩ = some (.int .i64 m)
theorem mi_of_open {w : World} (h : w.ShapedOpen Tryd.prog) : MI w :=
  cell_of_shapedOpen_int (P := Tryd.prog) (g := 0) (t := 3) (zero := #[.int .i64 0]) (k := .i64) h (of_decide_eq_true (by kernel_rfl)) (by kernel_rfl) rfl (by kernel_rfl) (by kernel_rfl) (by kernel_rfl)

theorem handed_open {H : Type} {enc : TypeId × Value → H} {a : Assume} {C : Checked} {os : Os} {f : FuncId} {fn : Func} {s : ChangeSpec} {conds : List PathCond} {apart fresh handsOn again : Bool} {X : World → Array Value → Prop}
    (hX : ∀ (w w' : World) (args : Array Value), w.heap = w'.heap → X w args → X w' args)
    (own : ownKnob C.prog.godebug = none) (started : os.Started) (noInit : C.prog.inits.idxOf? f = none) (hfn : C.prog.funcs[f]? = some fn)
    (wit : ∃ (w : World) (tape : Tape) (i : Input), w.os = os ∧ (w.forCall tape i).Shaped C.prog ∧ i.vars = [] ∧ Input.okWide C.prog (w.forCall tape i) .any w.heap.size f i ∧
      ((s.pre enc C.prog fn conds apart (w.forCall tape i).memory i.args ∧ X (w.forCall tape i).memory i.args) ∧ sizedMet enc C.prog fn (OpenSpec.ofChange s) apart (w.forCall tape i).memory i.args) ∧ a.holds C.prog (lone (Frame.enter C.prog f i.args .normal) [] (w.forCall tape i)))
    (K : ∀ (W : World) (base : Nat) (args : Array Value) (ds gs : List (DataW H)) (before : List MemPlace), W.ShapedOpen C.prog →
      (∀ (j : Nat) t v, fn.params[j]? = some t → args[j]? = some v → Value.okWide C.prog W .any base t v) →
      DataW.Whole enc C.prog fn.params.toList s.vars apart W args.toList ds gs before →
      conds.all (PathCond.test C.prog ⟨fn.params.toList, ds, s.plain.varTypes C.prog, gs⟩) = true →
      (DataW.weightsEach C.prog (fn.params.toList ++ s.plain.varTypes C.prog) (ds ++ gs)).all (· ≤ reachBytes) = true → X W args →
      Calls C.prog f args W fun e W' => ∃ v, e = .returned v ∧ s.post enc C.prog fn apart fresh handsOn again W args v W') :
    ReturnsInHanded a C os f .any (fun w args => (s.pre enc C.prog fn conds apart w args ∧ X w args) ∧ sizedMet enc C.prog fn (OpenSpec.ofChange s) apart w args) (s.post enc C.prog fn apart fresh handsOn again) := by
  refine returnsInHanded_of_calls own started noInit wit fun w tape i _ hso _ hok hpre _ => ?_
  obtain ⟨_, _, _, g, hg, _, _, _, _, hval⟩ := hok
  obtain rfl : g = fn := Option.some.inj (hg.symm.trans hfn)
  obtain ⟨⟨⟨ds, gs, before, hw, hc⟩, hx⟩, hz⟩ := hpre
  refine (K (w.forCall tape i) w.heap.size i.args ds gs before hso hval (DataW.Whole.of_heap (w' := w.forCall tape i) (by rfl) hw) hc (hz.weights hw) (hX _ _ _ (by rfl) hx)).mono fun e W' ⟨v, he, hp⟩ => ?_
  subst he
  exact ChangeSpec.post_blind hp
end Go.Proofs.YtgkjmmfpbcgmgaaDoor
