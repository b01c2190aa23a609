/-
  Module files: what the document fixes.
  ModfileParents: the law's walk.
  The way to the card where the road reads a variable that no laid table ties: the world that the card hands on is of its shape, and this says what the variable holds.
-/
import Derived.Test.YtgkjmmfpbcgmgaaDoorJPthD
import Derived.Handed
import Derived.SizedLaws
import Derived.ChangeOld
import Derived.ShutString
import Derived.Shelf.Vars
namespace Go.Proofs.YtgkjmmfpbcgmgaaDoor
open Go.RowKit

theorem mod_one : modL [109, 111, 100, 117, 108, 101, 32, 101, 120, 97, 109, 112, 108, 101, 46, 99, 111, 109, 47, 97, 32, 47, 47, 32, 120, 10] = ([101, 120, 97, 109, 112, 108, 101, 46, 99, 111, 109, 47, 97], 0, 0) := by decide +kernel
theorem mod_two : modL [10, 34, 120, 10] = ([], 2, 3) := by decide +kernel
set_option maxHeartbeats 1000000 in
theorem awake_any (w : World) : Calls Tryd.prog 13 #[] w fun e w' => e = .returned (.bool true) ∧ Below w.heap.size w w' := by
  have H1 : Hid (∀ V, Calls Tryd.prog 11 #[.string ⟨#[109, 111, 100, 117, 108, 101, 32, 101, 120, 97, 109, 112, 108, 101, 46, 99, 111, 109, 47, 97, 32, 47, 47, 32, 120, 10]⟩] V fun e w' => e = .returned (.tuple #[.string ⟨#[101, 120, 97, 109, 112, 108, 101, 46, 99, 111, 109, 47, 97]⟩, .int .i64 0, .int .i64 0]) ∧ Below V.heap.size V w') := by
    intro V
    have h := module_any ⟨#[109, 111, 100, 117, 108, 101, 32, 101, 120, 97, 109, 112, 108, 101, 46, 99, 111, 109, 47, 97, 32, 47, 47, 32, 120, 10]⟩ V (by decide)
    unfold ModQ at h
    rw [mod_one] at h
    exact h
  have H2 : Hid (∀ V, Calls Tryd.prog 11 #[.string ⟨#[10, 34, 120, 10]⟩] V fun e w' => e = .returned (.tuple #[.string ⟨#[]⟩, .int .i64 2, .int .i64 3]) ∧ Below V.heap.size V w') := by
    intro V
    have h := module_any ⟨#[10, 34, 120, 10]⟩ V (by decide)
    unfold ModQ at h
    rw [mod_two] at h
    exact h
  go_enter Tryd.func13, Tryd.ntmps13
  go_wp2_with fail
  refine (H1.out _).mono ?_
  rintro _ w1 ⟨rfl, hb1⟩
  go_wp2_with fail
  refine (H2.out _).mono ?_
  rintro _ w2 ⟨rfl, hb2⟩
  go_wp2
  go_ret
  exact ⟨rfl, hb1.trans (hb2.mono hb1.size)⟩
end Go.Proofs.YtgkjmmfpbcgmgaaDoor
namespace Go.Proofs.YtgkjmmfpbcgmgaaDoor
open Go.RowKit

theorem pathL_size {s : ByteArray} (h : pathL s.data.toList = true) : s.size ≤ 200 := by
  have := (path_parts h).1
  rw [sl_len] at this
  exact this
set_option maxHeartbeats 2000000 in
set_option maxRecDepth 100000 in
/-- the law's end: FilePath of a text, and what it says of its ends -/
theorem parents_walk (s : ByteArray) (m : Int) (w : World) (hm : w.cell? ⟨0, 0, none⟩ = some (.int .i64 m)) (hsz : s.size ≤ 140737488355328) :
    Calls Tryd.prog 7 #[.string s] w fun e w' => e = .returned (.bool true) ∧ Below w.heap.size w w' := by
  have h0lt : 0 < w.heap.size := lt_of_cell hm
  have HMB : Hid (∀ V, Below w.heap.size w V → V.cell? ⟨0, 0, none⟩ = some (.int .i64 m)) := fun V hV => (hV.cell (p := ⟨0, 0, none⟩) h0lt).trans hm
  have HPA := hidM (fun V => path_any s V)
  have HFI := hidM (fun V hV => filePath_any s m V (HMB.out V hV))
  have HPF : Hid (pathL s.data.toList = true → fileL s.data.toList = true) := path_file
  have HFE : Hid (fileL s.data.toList = true → 0 < s.size ∧ s.size ≤ 200 ∧ ∃ h : 0 < s.size, s[0] ≠ 47 ∧ s[s.size - 1] ≠ 47) := by
    intro h
    have hc : cleanL s.data.toList = true := by
      unfold fileL at h
      simp only [Bool.and_eq_true] at h
      exact h.1.1
    obtain ⟨h1, h2, h3⟩ := clean_ends hc
    have hpos : 0 < s.size := by
      rw [← sl_len]
      cases hl : s.data.toList with
      | nil => exact absurd hl h1
      | cons _ _ => simp
    refine ⟨hpos, ?_, hpos, ?_, ?_⟩
    · unfold cleanL at hc
      simp only [Bool.and_eq_true, decide_eq_true_eq] at hc
      rw [sl_len] at hc; exact hc.1.1
    · intro e
      apply h2
      rw [List.head?_eq_getElem?, ba_at s 0 hpos, e]
    · intro e
      apply h3
      rw [List.getLast?_eq_getElem?, sl_len, ba_at s _ (by omega), e]
  have HEND : Hid (∀ V, Below w.heap.size w V → Calls Tryd.prog 13 #[] V fun e w' => e = .returned (.bool true) ∧ Below w.heap.size w w') := fun V hV => (awake_any V).mono fun e w' ⟨he, hb⟩ => ⟨he, hV.trans (hb.mono hV.size)⟩
  cases hp : pathL s.data.toList with
  | true =>
    have hs2 := pathL_size hp
    have hfi := HPF.out hp
    obtain ⟨hpos, _, h47, n0, n1⟩ := HFE.out hfi
    have HTK : Hid (∀ k (hk : k < s.size), s[k] = 47 → ∀ V, Calls Tryd.prog 16 #[.string (s.extract 0 k)] V fun e w' => e = .returned (.bool true) ∧ Below V.heap.size V w') := by
      intro k hk hc V
      have := path_any (s.extract 0 k) V
      rw [ext_head, path_take (by rw [sl_len]; exact hk) hc hp] at this
      exact this
    have HFT : Hid (∀ V, Below w.heap.size w V → Calls Tryd.prog 17 #[.string s] V fun e w' => e = .returned (.bool true) ∧ Below w.heap.size w w') := fun V hV => by
      have := HFI.out V hV
      rw [hfi] at this
      exact this.mono fun e w' ⟨he, hb⟩ => ⟨he, hV.trans (hb.mono hV.size)⟩
    rw [hp] at HPA
    have q0 : (((s[0].toNat : Nat) : Int) != 47) = true := by
      rw [bne_iff_ne]
      intro e; apply n0; exact UInt8.toNat_inj.1 (by have : (47 : UInt8).toNat = 47 := rfl; omega)
    have q1 : (((s[s.size - 1].toNat : Nat) : Int) != 47) = true := by
      rw [bne_iff_ne]
      intro e; apply n1; exact UInt8.toNat_inj.1 (by have : (47 : UInt8).toNat = 47 := rfl; omega)
    have q2 : (0 : Int) < (s.size : Int) := by omega
    have q3 : (s.size : Int) - 1 = ((s.size - 1 : Nat) : Int) := by omega
    have q4 : ((s.size - 1 : Nat) : Int) < (s.size : Int) := by omega
    clear hp hfi n0 n1 HPF HFE HFI
    go_enter Tryd.func7, Tryd.ntmps7
    go_wp2_with fail
    refine (HPA.out _).mono ?_
    rintro _ w1 ⟨rfl, hb1⟩
    have HB1 := hidM hb1
    clear hb1 HPA
    go_wp2
    go_loopw [3, 6, 7, 8, 9, 10, 11, 12, 13, 14, 15, 16, 17, 18, 19, 20, 21, 22] (fun v3 _ _ _ _ _ _ _ _ _ _ _ _ _ _ _ _ _ wr => ∃ k : Nat, k ≤ s.size ∧ v3 = .int .i64 (k : Int) ∧ Below w.heap.size w wr) (fun v3 _ _ _ _ _ _ _ _ _ _ _ _ _ _ _ _ _ _ => s.size - (intOf v3).toNat)
    case atStart => exact ⟨0, Nat.zero_le _, rfl, HB1.out⟩
    case round =>
      obtain ⟨k, hk, rfl, hbr⟩ := hrel
      have HBR := hidM hbr
      clear hbr HB1
      by_cases hlt : k < s.size
      · have kk : (k : Int) < (s.size : Int) := by omega
        by_cases hc : s[k] = 47
        · have b1 : (((s[k].toNat : Nat) : Int) == 47) = true := by rw [hc]; rfl
          have HT := hidM (HTK.out k hlt hc)
          have c1 : (0 : Int) ≤ (k : Int) := by omega
          have c2 : (k : Int) ≤ (s.size : Int) := by omega
          
          clear hc HTK
          go_wp2_with fail
          refine (HT.out _).mono ?_
          rintro _ w2 ⟨rfl, hb2⟩
          have HB2 := hidM (HBR.out.trans (hb2.mono HBR.out.size))
          clear hb2 HT
          go_wp2
          go_roundw
          case rel => exact ⟨k + 1, by omega, by go_num, HB2.out⟩
          case measure => (show s.size - ((k : Int) + 1).toNat < s.size - ((k : Int)).toNat); omega
        · have b1 : (((s[k].toNat : Nat) : Int) == 47) = false := by
            rw [beq_eq_false_iff_ne]
            intro e; apply hc; exact UInt8.toNat_inj.1 (by have : (47 : UInt8).toNat = 47 := rfl; omega)
          clear hc
          go_wp2
          go_roundw
          case rel => exact ⟨k + 1, by omega, by go_num, HBR.out⟩
          case measure => (show s.size - ((k : Int) + 1).toNat < s.size - ((k : Int)).toNat); omega
      · have kk : ¬ (k : Int) < (s.size : Int) := by omega
        clear HTK
        go_wp2_with fail
        refine (HFT.out _ HBR.out).mono ?_
        rintro _ w2 ⟨rfl, hb2⟩
        have HB2 := hidM hb2
        clear hb2
        go_wp2_with fail
        refine (HEND.out _ HB2.out).mono ?_
        rintro _ w3 ⟨rfl, hb3⟩
        have HB3 := hidM hb3
        clear hb3
        go_wp2_with fail
        refine (HFT.out _ HB3.out).mono ?_
        rintro _ w4 ⟨rfl, hb4⟩
        go_wp2
        go_ret
        exact ⟨rfl, hb4⟩
  | false =>
    rw [hp] at HPA
    have HFF := hidM (fun V hV => (HFI.out V hV).mono (R' := fun e w' => e = .returned (.bool (fileL s.data.toList)) ∧ Below w.heap.size w w') fun e w' ⟨he, hb⟩ => ⟨he, hV.trans (hb.mono hV.size)⟩)
    clear hp HPF HFI
    cases hf : fileL s.data.toList with
    | false =>
      rw [hf] at HFF
      clear hf HFE
      go_enter Tryd.func7, Tryd.ntmps7
      go_wp2_with fail
      refine (HPA.out _).mono ?_
      rintro _ w1 ⟨rfl, hb1⟩
      have HB1 := hidM hb1
      clear hb1 HPA
      go_wp2_with fail
      refine (HEND.out _ HB1.out).mono ?_
      rintro _ w3 ⟨rfl, hb3⟩
      have HB3 := hidM hb3
      clear hb3
      go_wp2_with fail
      refine (HFF.out _ HB3.out).mono ?_
      rintro _ w4 ⟨rfl, hb4⟩
      go_wp2
      go_ret
      exact ⟨rfl, hb4⟩
    | true =>
      obtain ⟨hpos, hs2, h47, n0, n1⟩ := HFE.out hf
      have q0 : (((s[0].toNat : Nat) : Int) != 47) = true := by
        rw [bne_iff_ne]
        intro e; apply n0; exact UInt8.toNat_inj.1 (by have : (47 : UInt8).toNat = 47 := rfl; omega)
      have q1 : (((s[s.size - 1].toNat : Nat) : Int) != 47) = true := by
        rw [bne_iff_ne]
        intro e; apply n1; exact UInt8.toNat_inj.1 (by have : (47 : UInt8).toNat = 47 := rfl; omega)
      have q2 : (0 : Int) < (s.size : Int) := by omega
      have q3 : (s.size : Int) - 1 = ((s.size - 1 : Nat) : Int) := by omega
      have q4 : ((s.size - 1 : Nat) : Int) < (s.size : Int) := by omega
      rw [hf] at HFF
      clear hf HFE n0 n1
      go_enter Tryd.func7, Tryd.ntmps7
      go_wp2_with fail
      refine (HPA.out _).mono ?_
      rintro _ w1 ⟨rfl, hb1⟩
      have HB1 := hidM hb1
      clear hb1 HPA
      go_wp2_with fail
      refine (HEND.out _ HB1.out).mono ?_
      rintro _ w3 ⟨rfl, hb3⟩
      have HB3 := hidM hb3
      clear hb3
      go_wp2_with fail
      refine (HFF.out _ HB3.out).mono ?_
      rintro _ w4 ⟨rfl, hb4⟩
      go_wp2
      go_ret
      exact ⟨rfl, hb4⟩
end Go.Proofs.YtgkjmmfpbcgmgaaDoor
namespace Go.Proofs.YtgkjmmfpbcgmgaaDoor
open Go.ChangeShapes Go.WideShapes Go.WideMaps Go.WideElems

def MI (w : World) : Prop := ∃ m, w.cell? ⟨0, 0, none⟩ = some (.int .i64 m)
theorem mi_of_open {w : World} (h : w.ShapedOpen Tryd.prog) : MI w :=
  cell_of_shapedOpen_int (P := Tryd.prog) (g := 0) (t := 3) (zero := #[.int .i64 0]) (k := .i64) h (of_decide_eq_true (by kernel_rfl)) (by kernel_rfl) rfl (by kernel_rfl) (by kernel_rfl) (by kernel_rfl)

theorem handed_open {H : Type} {enc : TypeId × Value → H} {a : Assume} {C : Checked} {os : Os} {f : FuncId} {fn : Func} {s : ChangeSpec} {conds : List PathCond} {apart fresh handsOn again : Bool} {X : World → Array Value → Prop}
    (hX : ∀ (w w' : World) (args : Array Value), w.heap = w'.heap → X w args → X w' args)
    (own : ownKnob C.prog.godebug = none) (started : os.Started) (noInit : C.prog.inits.idxOf? f = none) (hfn : C.prog.funcs[f]? = some fn)
    (wit : ∃ (w : World) (tape : Tape) (i : Input), w.os = os ∧ (w.forCall tape i).Shaped C.prog ∧ i.vars = [] ∧ Input.okWide C.prog (w.forCall tape i) .any w.heap.size f i ∧
      ((s.pre enc C.prog fn conds apart (w.forCall tape i).memory i.args ∧ X (w.forCall tape i).memory i.args) ∧ sizedMet enc C.prog fn (OpenSpec.ofChange s) apart (w.forCall tape i).memory i.args) ∧ a.holds C.prog (lone (Frame.enter C.prog f i.args .normal) [] (w.forCall tape i)))
    (K : ∀ (W : World) (base : Nat) (args : Array Value) (ds gs : List (DataW H)) (before : List MemPlace), W.ShapedOpen C.prog →
      (∀ (j : Nat) t v, fn.params[j]? = some t → args[j]? = some v → Value.okWide C.prog W .any base t v) →
      DataW.Whole enc C.prog fn.params.toList s.vars apart W args.toList ds gs before →
      conds.all (PathCond.test C.prog ⟨fn.params.toList, ds, s.plain.varTypes C.prog, gs⟩) = true →
      (DataW.weightsEach C.prog (fn.params.toList ++ s.plain.varTypes C.prog) (ds ++ gs)).all (· ≤ reachBytes) = true → X W args →
      Calls C.prog f args W fun e W' => ∃ v, e = .returned v ∧ s.post enc C.prog fn apart fresh handsOn again W args v W') :
    ReturnsInHanded a C os f .any (fun w args => (s.pre enc C.prog fn conds apart w args ∧ X w args) ∧ sizedMet enc C.prog fn (OpenSpec.ofChange s) apart w args) (s.post enc C.prog fn apart fresh handsOn again) := by
  refine returnsInHanded_of_calls own started noInit wit fun w tape i _ hso _ hok hpre _ => ?_
  obtain ⟨_, _, _, g, hg, _, _, _, _, hval⟩ := hok
  obtain rfl : g = fn := Option.some.inj (hg.symm.trans hfn)
  obtain ⟨⟨⟨ds, gs, before, hw, hc⟩, hx⟩, hz⟩ := hpre
  refine (K (w.forCall tape i) w.heap.size i.args ds gs before hso hval (DataW.Whole.of_heap (w' := w.forCall tape i) (by rfl) hw) hc (hz.weights hw) (hX _ _ _ (by rfl) hx)).mono fun e W' ⟨v, he, hp⟩ => ?_
  subst he
  exact ChangeSpec.post_blind hp
end Go.Proofs.YtgkjmmfpbcgmgaaDoor
