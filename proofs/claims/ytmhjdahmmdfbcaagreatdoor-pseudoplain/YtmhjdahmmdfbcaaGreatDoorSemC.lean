/-
  What Parse says; the boxes of its walk.
-/
import Derived.Test.YtmhjdahmmdfbcaaGreatDoorSemB
import Derived.ScopeJumps
import Derived.Laws.ResultCell
import Derived.Laws.AppendOwn
namespace Go.Proofs.YtmhjdahmmdfbcaaGreatDoor
open Go.RowKit
theorem wp_scope_forward {P : Program} {a : Act} {w : World} {Q : Exit → Act → World → Prop} {c rest : Code} (l : Nat) (hf : findLabel c l = some rest)
    (first : c.wp P (Exit.jump l (fun a w => rest.wp P (Exit.noGoto Q) a w) Q) a w) : (Code.scope c).wp P Q a w :=
  wp_scope_jumps l _ (fun _ _ => 0) hf first (fun _ _ h => wp_mono h (fun e _ _ hq => by cases e <;> first | exact hq | exact hq.elim))
theorem cutR_len (c : UInt8) (l : List UInt8) : (cutR c l).1.length ≤ l.length ∧ (cutR c l).2.1.length ≤ l.length := by
  unfold cutR
  split
  · simp
  · rename_i p q h
    have := (split_some h).2.1
    rw [this]; simp; omega
def strOf (l : List UInt8) : ByteArray := ⟨l.toArray⟩
/-- a version's parts, as Parse cuts them -/
structure Cuts where
  marked : Bool
  nums : ByteArray
  pre : ByteArray
  build : ByteArray
  hasPre : Bool
  hasBuild : Bool
def cutsOf (s : ByteArray) : Cuts :=
  let r := vCut s.data.toList
  let b := cutR 43 r.1
  let p := cutR 45 b.1
  ⟨r.2, strOf p.1, strOf p.2.1, strOf b.2.1, p.2.2, b.2.2⟩
structure Ver where
  major : ByteArray
  minor : ByteArray
  patch : ByteArray
  pre : ByteArray
  build : ByteArray
  short : Nat
def nought : ByteArray := ⟨#[48]⟩
def okC (c : Cuts) : Bool :=
  c.marked && decide ((partsB c.nums).length ≤ 3) && !(decide ((partsB c.nums).length < 3) && (c.hasPre || c.hasBuild)) &&
  !(c.hasPre && !((partsB c.pre).all fun x => preL x.data.toList)) && !(c.hasBuild && !((partsB c.build).all fun x => wordL x.data.toList)) && ((partsB c.nums).all fun x => numL x.data.toList)
def verC (c : Cuts) : Ver :=
  let n := partsB c.nums ++ [nought, nought]
  ⟨n.getD 0 nought, n.getD 1 nought, n.getD 2 nought, c.pre, c.build, 3 - (partsB c.nums).length⟩
def parseR (s : ByteArray) : Option Ver := if s.size ≤ 100 && okC (cutsOf s) then some (verC (cutsOf s)) else none
def verV : Option Ver → Value
  | some v => .tuple #[.agg #[.string v.major, .string v.minor, .string v.patch, .string v.pre, .string v.build, .int .i64 (v.short : Int)], .bool true]
  | none => .tuple #[.agg #[.string ⟨#[]⟩, .string ⟨#[]⟩, .string ⟨#[]⟩, .string ⟨#[]⟩, .string ⟨#[]⟩, .int .i64 0], .bool false]
theorem size23 : (Tryz.prog.info? 43).map (·.size) = some 6 := by kernel_rfl
def zero23 : Array Value := #[.string ⟨#[]⟩, .string ⟨#[]⟩, .string ⟨#[]⟩, .string ⟨#[]⟩, .string ⟨#[]⟩, .int .i64 0]
/-- the two boxes of Parse: what it answers, and v -/
structure PS (w : World) (cs : Array Value) (V : World) : Prop where
  bel : Below w.heap.size w V
  z : V.heap[w.heap.size]? = some (.cells zero23 43)
  v : V.heap[w.heap.size + 1]? = some (.cells cs 43)
theorem PS.next {w V V' : World} {cs : Array Value} (H : PS w cs V) (hb : Below V.heap.size V V') : PS w cs V' := ⟨H.bel.trans (hb.mono H.bel.size), box_kept H.z hb, box_kept H.v hb⟩
theorem PS.drewN {w V : World} {cs : Array Value} (H : PS w cs V) (n : Nat) : PS w cs (V.drewN n) := ⟨below_drewN H.bel n, H.z, H.v⟩
theorem PS.set {w V : World} {cs : Array Value} (H : PS w cs V) (i : Nat) (x : Value) : PS w (cs.setIfInBounds i x) (V.setCell ⟨w.heap.size + 1, i, none⟩ x) := by
  refine ⟨H.bel.trans ⟨rfl, rfl, rfl, by simp, fun k hk => Below.heap_setCell V ⟨w.heap.size + 1, i, none⟩ x k (by simp; omega)⟩, ?_, ?_⟩
  · rw [← H.z]; exact Below.heap_setCell V ⟨w.heap.size + 1, i, none⟩ x w.heap.size (by simp)
  · rw [setCell_eq_setRow V _ i cs 43 (0, 0) x H.v]
    exact setRow_heap V _ cs _ 43 (0, 0) H.v
theorem PS.cell {w V : World} {cs : Array Value} (H : PS w cs V) (i : Nat) : V.cell? ⟨w.heap.size + 1, i, none⟩ = cs[i]? := cell_of_row _ _ _ _ 43 (0, 0) H.v
theorem PS.free {w V : World} {cs : Array Value} (H : PS w cs V) (i : Nat) : V.frozen? ⟨w.heap.size + 1, i, none⟩ = false := by simp [World.frozen?, H.v]
theorem PS.start (w : World) : PS w zero23 ((w.alloc (.cells zero23 43)).alloc (.cells zero23 43)) :=
  ⟨((Below.refl _ w).alloc (Nat.le_refl _) _).alloc (by simp) _, heap_alloc2_old _ _ _, heap_alloc2_new _ _ _⟩
theorem results_box {fn : Func} {p u : Tmp} {ty : TypeId} {P : Program} (h : fn.results = #[.cell p ty, .tmp u]) (tmps : Array Value) (w : World) (g : Nat) (cs : Array Value)
    (hp : tmps.getD p undef = .pointer (some ⟨g, 0, none⟩)) (hr : (loadVar ty ⟨g, 0, none⟩).run P w = .ok (.agg cs) w) :
    (results fn tmps).run P w = .ok (.tuple #[.agg cs, tmps.getD u undef]) w := by
  rw [results_cell_tmp h, hp]
  simp [asAddr, hr, Result.andThen]
theorem below_setRow {B g : Nat} {w wr : World} {c : Array Value} (h : Below B w wr) (hg : B ≤ g) : Below B w (wr.setRow g c) :=
  h.trans ⟨rfl, rfl, rfl, by simp, fun k hk => setRow_other wr g k c (by omega)⟩
theorem ones23 : (#[.string ⟨#[]⟩, .string ⟨#[]⟩, .string ⟨#[]⟩, .string ⟨#[]⟩, .string ⟨#[]⟩, .int .i64 0] : Array Value).all (·.oneCell') = true := by simp [Value.oneCell']
theorem ones23v (a b c d e : ByteArray) (n : Int) : (#[.string a, .string b, .string c, .string d, .string e, .int .i64 n] : Array Value).all (·.oneCell') = true := by simp [Value.oneCell']
theorem PS.drew {w V : World} {cs : Array Value} (H : PS w cs V) : PS w cs V.drew := ⟨H.bel.trans ⟨rfl, rfl, rfl, Nat.le_refl _, fun _ _ => rfl⟩, H.z, H.v⟩
theorem PS.grow {w V V' : World} {cs : Array Value} (H : PS w cs V) (hb : Below (w.heap.size + 2) V V') : PS w cs V' :=
  ⟨H.bel.trans (hb.mono (by omega)), by rw [hb.block _ (by omega)]; exact H.z, by rw [hb.block _ (by omega)]; exact H.v⟩
theorem Below.refl_grown {B : Nat} {w w' : World} {o : Option Nat} (h : B ≤ w.heap.size) (hg : w.grownBy w' o) (ho : ∀ j, o = some j → B ≤ j) : Below B w w' :=
  (Below.refl B w).grown hg h ho
set_option maxHeartbeats 2000000 in
set_option maxRecDepth 100000 in
theorem parse_long (s : ByteArray) (w : World) (hs : 100 < s.size) (hm : s.size ≤ 9223372036854775807) :
    Calls Tryz.prog 18 #[.string s] w fun x w' => x = .returned (verV none) ∧ Below w.heap.size w w' := by
  have b : decide ((100 : Int) < (s.size : Int)) = true := by simp; omega
  have HP := hidM (PS.start w)
  unfold zero23 at HP
  go_enter Tryz.func18, Tryz.ntmps18
  go_wp2
  refine wp_scope_forward (rest := ?rest) 0 ?hf ?_
  case hf => rfl
  go_wp2
  go_step3
  refine (⟨rfl, ?_⟩ : (0 : Nat) = 0 ∧ _)
  go_wp2
  rw [Exit.noGoto_ret]
  exact bodyPost_ret (results_box rfl _ _ w.heap.size _ rfl (run_loadVar_row _ w.heap.size 43 43 _ (0, 0) _ HP.out.z Tryz.underlying43 rfl size23)) rfl ⟨rfl, HP.out.bel⟩
set_option maxHeartbeats 4000000 in
set_option maxRecDepth 100000 in
theorem parse_short (s : ByteArray) (w : World) (hs : s.size ≤ 100) :
    Calls Tryz.prog 18 #[.string s] w fun x w' => x = .returned (verV (parseR s)) ∧ Below w.heap.size w w' := by
  have b : decide ((100 : Int) < (s.size : Int)) = false := by simp; omega
  have HP := hidM (PS.start w)
  have HR : Hid (parseR s = if okC (cutsOf s) then some (verC (cutsOf s)) else none) := by
    unfold Hid parseR
    rw [decide_eq_true hs]
    simp
  have HC1 := hidM (fun V => cutP_any s V (by omega))
  obtain ⟨r, hr⟩ : ∃ r, r = strOf (vCut s.data.toList).1 := ⟨_, rfl⟩
  have hrl : r.data.toList = (vCut s.data.toList).1 := by rw [hr]; rfl
  have hrs : r.size ≤ 100 := by
    rw [← size_len, hrl]
    have : (vCut s.data.toList).1.length ≤ s.data.toList.length := by
      cases s.data.toList with
      | nil => exact Nat.le_refl _
      | cons c l => simp only [vCut]; split <;> simp
    rw [size_len] at this
    omega
  have HC2 := hidM (fun V => cut_any r 43 V (by omega))
  obtain ⟨r1, hr1⟩ : ∃ r1, r1 = strOf (cutR 43 r.data.toList).1 := ⟨_, rfl⟩
  have hr1l : r1.data.toList = (cutR 43 r.data.toList).1 := by rw [hr1]; rfl
  have hr1s : r1.size ≤ 100 := by
    rw [← size_len, hr1l]
    have := (cutR_len 43 r.data.toList).1
    rw [size_len] at this
    omega
  have HC3 := hidM (fun V => cut_any r1 45 V (by omega))
  have HCO : Hid (cutsOf s = ⟨(vCut s.data.toList).2, strOf (cutR 45 r1.data.toList).1, strOf (cutR 45 r1.data.toList).2.1, strOf (cutR 43 r.data.toList).2.1, (cutR 45 r1.data.toList).2.2, (cutR 43 r.data.toList).2.2⟩) := by
    unfold Hid cutsOf
    rw [hr1l, hrl]
  have hr2s : (strOf (cutR 45 r1.data.toList).1).size ≤ 100 := by
    show (cutR 45 r1.data.toList).1.toArray.size ≤ 100
    rw [List.size_toArray]
    have := (cutR_len 45 r1.data.toList).1
    rw [size_len] at this
    omega
  have hps : (strOf (cutR 45 r1.data.toList).2.1).size ≤ 100 := by
    show (cutR 45 r1.data.toList).2.1.toArray.size ≤ 100
    rw [List.size_toArray]
    have := (cutR_len 45 r1.data.toList).2
    rw [size_len] at this
    omega
  have hbs : (strOf (cutR 43 r.data.toList).2.1).size ≤ 100 := by
    show (cutR 43 r.data.toList).2.1.toArray.size ≤ 100
    rw [List.size_toArray]
    have := (cutR_len 43 r.data.toList).2
    rw [size_len] at this
    omega
  rw [show (⟨(vCut s.data.toList).1.toArray⟩ : ByteArray) = r from hr.symm] at HC1
  rw [show (⟨(cutR 43 r.data.toList).1.toArray⟩ : ByteArray) = r1 from hr1.symm] at HC2
  change Hid (∀ V, Calls Tryz.prog 45 #[.string r, .string ⟨#[43]⟩] V fun e w' => e = .returned (.tuple #[.string r1, .string (strOf (cutR 43 r.data.toList).2.1), .bool (cutR 43 r.data.toList).2.2]) ∧ ∃ m, w' = V.drewN m) at HC2
  change Hid (∀ V, Calls Tryz.prog 45 #[.string r1, .string ⟨#[45]⟩] V fun e w' => e = .returned (.tuple #[.string (strOf (cutR 45 r1.data.toList).1), .string (strOf (cutR 45 r1.data.toList).2.1), .bool (cutR 45 r1.data.toList).2.2]) ∧ ∃ m, w' = V.drewN m) at HC3
  generalize (vCut s.data.toList).2 = mk at *
  generalize (cutR 43 r.data.toList).2.2 = hb at *
  generalize (cutR 45 r1.data.toList).2.2 = hp at *
  generalize strOf (cutR 45 r1.data.toList).1 = r2 at *
  generalize strOf (cutR 45 r1.data.toList).2.1 = pr at *
  generalize strOf (cutR 43 r.data.toList).2.1 = bu at *
  have HSP := hidM (fun V => split_any r2 V (by omega))
  have HAP := hidM (fun V => all_pre pr V (by omega))
  have HAW := hidM (fun V => all_word bu V (by omega))
  have HAN := hidM (fun V => all_num r2 V (by omega))
  have HPL : Hid (1 ≤ (partsB r2).length) := by
    have hlen : (partsB r2).length = Lib.countB r2 stopB + 1 := Lib.splitB_all stopB (by decide) 0 _ r2 rfl
    unfold Hid; omega
  have hpl2 : (partsB r2).length ≤ 101 := by
    have hcl := Lib.countB_le stopB (by decide) r2.size r2 (Nat.le_refl _)
    have hlen : (partsB r2).length = Lib.countB r2 stopB + 1 := Lib.splitB_all stopB (by decide) 0 _ r2 rfl
    omega
  rw [HCO.out] at HR
  unfold okC verC at HR
  simp only at HR
  generalize partsB r2 = ps at *
  generalize ((partsB pr).all fun x => preL x.data.toList) = ap at *
  generalize ((partsB bu).all fun x => wordL x.data.toList) = aw at *
  generalize (ps.all fun x => numL x.data.toList) = an at *
  clear hr hrl hr1 hr1l HCO
  unfold stopB at HSP
  unfold zero23 at HP
  go_enter Tryz.func18, Tryz.ntmps18
  go_wp2
  refine wp_scope_forward (rest := ?rest) 0 ?hf ?_
  case hf => rfl
  go_wp2_with fail
  generalize ((w.alloc (.cells #[.string ⟨#[]⟩, .string ⟨#[]⟩, .string ⟨#[]⟩, .string ⟨#[]⟩, .string ⟨#[]⟩, .int .i64 0] 43)).alloc (.cells #[.string ⟨#[]⟩, .string ⟨#[]⟩, .string ⟨#[]⟩, .string ⟨#[]⟩, .string ⟨#[]⟩, .int .i64 0] 43)) = W0 at *
  refine (HC1.out W0).mono ?_
  rintro _ w1 ⟨rfl, hw1⟩
  rw [hw1]
  clear hw1 w1
  go_wp2_with fail
  refine (HC2.out W0).mono ?_
  rintro _ _ ⟨rfl, m1, rfl⟩
  have c4 : W0.cell? ⟨w.heap.size + 1, 4, none⟩ = some (.string ⟨#[]⟩) := HP.out.cell 4
  have f4 := HP.out.free 4
  have HP1 : Hid (PS w #[.string ⟨#[]⟩, .string ⟨#[]⟩, .string ⟨#[]⟩, .string ⟨#[]⟩, .string bu, .int .i64 0] ((W0.drewN m1).setCell ⟨w.heap.size + 1, 4, none⟩ (.string bu))) := (HP.out.drewN m1).set 4 (.string bu)
  clear HP
  go_wp2_with fail
  generalize (W0.drewN m1).setCell ⟨w.heap.size + 1, 4, none⟩ (.string bu) = W1 at *
  refine (HC3.out W1).mono ?_
  rintro _ _ ⟨rfl, m2, rfl⟩
  have c3 : W1.cell? ⟨w.heap.size + 1, 3, none⟩ = some (.string ⟨#[]⟩) := HP1.out.cell 3
  have f3 := HP1.out.free 3
  have HP2 : Hid (PS w #[.string ⟨#[]⟩, .string ⟨#[]⟩, .string ⟨#[]⟩, .string pr, .string bu, .int .i64 0] ((W1.drewN m2).setCell ⟨w.heap.size + 1, 3, none⟩ (.string pr))) := (HP1.out.drewN m2).set 3 (.string pr)
  clear HP1 c4 f4
  go_wp2_with fail
  generalize (W1.drewN m2).setCell ⟨w.heap.size + 1, 3, none⟩ (.string pr) = W2 at *
  refine (HSP.out W2).mono ?_
  rintro _ _ ⟨rfl, rfl⟩
  have HB3 : Hid (Below W2.heap.size W2 (W2.alloc (.cells (ps.map Value.string).toArray 9))) := (Below.refl _ _).alloc (Nat.le_refl _) _
  have HRW : Hid ((W2.alloc (.cells (ps.map Value.string).toArray 9)).heap[W2.heap.size]? = some (.cells (ps.map Value.string).toArray 9)) := _root_.Go.heap_alloc_new _ _
  have HP3 := hidM (HP2.out.next HB3.out)
  have HBG : Hid (w.heap.size + 2 ≤ W2.heap.size) := by
    have := (Array.getElem?_eq_some_iff.1 HP2.out.v).1
    unfold Hid; omega
  clear HP2 c3 f3 HB3
  generalize (W2.alloc (.cells (ps.map Value.string).toArray 9)) = W3 at *
  generalize W2.heap.size = G at *
  have c5 : W3.cell? ⟨w.heap.size + 1, 5, none⟩ = some (.int .i64 0) := HP3.out.cell 5
  have f5 := HP3.out.free 5
  have HP4 : Hid (PS w #[.string ⟨#[]⟩, .string ⟨#[]⟩, .string ⟨#[]⟩, .string pr, .string bu, .int .i64 (3 - (ps.length : Int))] (W3.setCell ⟨w.heap.size + 1, 5, none⟩ (.int .i64 (3 - (ps.length : Int))))) := HP3.out.set 5 (.int .i64 (3 - (ps.length : Int)))
  have HRW4 : Hid ((W3.setCell ⟨w.heap.size + 1, 5, none⟩ (.int .i64 (3 - (ps.length : Int)))).heap[G]? = some (.cells (ps.map Value.string).toArray 9)) := by
    unfold Hid
    rw [← HRW.out]
    exact Below.heap_setCell W3 ⟨w.heap.size + 1, 5, none⟩ _ G (by have := HBG.out; simp; omega)
  go_upto_region 10 with fail
  have HP4' := HP4
  generalize W3.setCell ⟨w.heap.size + 1, 5, none⟩ (.int .i64 (3 - (ps.length : Int))) = W4 at *
  clear HP4' HP3 HRW c5 f5
  cases mk with
  | false =>
    as_aux_lemma =>
    have HRf : Hid (parseR s = none) := by unfold Hid; rw [HR.out]; rfl
    have c3 : W4.cell? ⟨w.heap.size + 1, 3, none⟩ = some (.string pr) := HP4.out.cell 3
    have c4 : W4.cell? ⟨w.heap.size + 1, 4, none⟩ = some (.string bu) := HP4.out.cell 4
    have c5 : W4.cell? ⟨w.heap.size + 1, 5, none⟩ = some (.int .i64 (3 - (ps.length : Int))) := HP4.out.cell 5
    go_wp2
    go_step3
    refine (⟨rfl, ?_⟩ : (0 : Nat) = 0 ∧ _)
    go_wp2_with (refine wpList_store_row rfl 43 (.tmp 2) (.tmp 90) rfl w.heap.size #[.string ⟨#[]⟩, .string ⟨#[]⟩, .string ⟨#[]⟩, .string ⟨#[]⟩, .string ⟨#[]⟩, .int .i64 0] rfl rfl 43 #[.string ⟨#[]⟩, .string ⟨#[]⟩, .string ⟨#[]⟩, .string ⟨#[]⟩, .string ⟨#[]⟩, .int .i64 0] HP4.out.z size23 rfl ones23 ?_)
    rw [Exit.noGoto_ret]
    exact bodyPost_ret (results_box rfl _ _ w.heap.size _ rfl (run_loadVar_row _ w.heap.size 43 43 _ (0, 0) _ (setRow_heap _ _ _ _ 43 _ HP4.out.z) Tryz.underlying43 rfl size23)) rfl ⟨by rw [HRf.out]; rfl, below_setRow HP4.out.bel (Nat.le_refl _)⟩
  | true =>
    by_cases hN : 3 < ps.length
    · as_aux_lemma =>
      have HRf : Hid (parseR s = none) := by unfold Hid; rw [HR.out]; rw [decide_eq_false (show ¬ ps.length ≤ 3 by omega)]; rfl
      have bN : decide (3 - (ps.length : Int) < 0) = true := by simp; omega
      have c3 : W4.cell? ⟨w.heap.size + 1, 3, none⟩ = some (.string pr) := HP4.out.cell 3
      have c4 : W4.cell? ⟨w.heap.size + 1, 4, none⟩ = some (.string bu) := HP4.out.cell 4
      have c5 : W4.cell? ⟨w.heap.size + 1, 5, none⟩ = some (.int .i64 (3 - (ps.length : Int))) := HP4.out.cell 5
      go_wp2
      go_step3
      refine (⟨rfl, ?_⟩ : (0 : Nat) = 0 ∧ _)
      go_wp2_with (refine wpList_store_row rfl 43 (.tmp 2) (.tmp 90) rfl w.heap.size #[.string ⟨#[]⟩, .string ⟨#[]⟩, .string ⟨#[]⟩, .string ⟨#[]⟩, .string ⟨#[]⟩, .int .i64 0] rfl rfl 43 #[.string ⟨#[]⟩, .string ⟨#[]⟩, .string ⟨#[]⟩, .string ⟨#[]⟩, .string ⟨#[]⟩, .int .i64 0] HP4.out.z size23 rfl ones23 ?_)
      rw [Exit.noGoto_ret]
      exact bodyPost_ret (results_box rfl _ _ w.heap.size _ rfl (run_loadVar_row _ w.heap.size 43 43 _ (0, 0) _ (setRow_heap _ _ _ _ 43 _ HP4.out.z) Tryz.underlying43 rfl size23)) rfl ⟨by rw [HRf.out]; rfl, below_setRow HP4.out.bel (Nat.le_refl _)⟩
    · obtain ⟨p0, q0, hps⟩ : ∃ p0 q0, ps = p0 :: q0 := by
        cases ps with
        | nil => exact absurd HPL.out (by decide)
        | cons a b => exact ⟨a, b, rfl⟩
      subst hps
      have hq3 : q0 = [] ∨ (∃ p1, q0 = [p1]) ∨ ∃ p1 p2, q0 = [p1, p2] := by
        match q0, hN with
        | [], _ => exact .inl rfl
        | [p1], _ => exact .inr (.inl ⟨p1, rfl⟩)
        | [p1, p2], _ => exact .inr (.inr ⟨p1, p2, rfl⟩)
        | _ :: _ :: _ :: _, h => exact absurd h (by simp)
      clear hN HPL hpl2
      rcases hq3 with rfl | ⟨p1, rfl⟩ | ⟨p1, p2, rfl⟩
      · change Hid (PS w #[.string ⟨#[]⟩, .string ⟨#[]⟩, .string ⟨#[]⟩, .string pr, .string bu, .int .i64 2] W4) at HP4
        have c3 : W4.cell? ⟨w.heap.size + 1, 3, none⟩ = some (.string pr) := HP4.out.cell 3
        have c4 : W4.cell? ⟨w.heap.size + 1, 4, none⟩ = some (.string bu) := HP4.out.cell 4
        have c5 : W4.cell? ⟨w.heap.size + 1, 5, none⟩ = some (.int .i64 2) := HP4.out.cell 5
        cases hp with
        | true =>
          as_aux_lemma =>
          have HRf : Hid (parseR s = none) := by unfold Hid; rw [HR.out]; cases hb <;> rfl
          go_wp2
          go_step3
          refine (⟨rfl, ?_⟩ : (0 : Nat) = 0 ∧ _)
          go_wp2_with (refine wpList_store_row rfl 43 (.tmp 2) (.tmp 90) rfl w.heap.size #[.string ⟨#[]⟩, .string ⟨#[]⟩, .string ⟨#[]⟩, .string ⟨#[]⟩, .string ⟨#[]⟩, .int .i64 0] rfl rfl 43 #[.string ⟨#[]⟩, .string ⟨#[]⟩, .string ⟨#[]⟩, .string ⟨#[]⟩, .string ⟨#[]⟩, .int .i64 0] HP4.out.z size23 rfl ones23 ?_)
          rw [Exit.noGoto_ret]
          exact bodyPost_ret (results_box rfl _ _ w.heap.size _ rfl (run_loadVar_row _ w.heap.size 43 43 _ (0, 0) _ (setRow_heap _ _ _ _ 43 _ HP4.out.z) Tryz.underlying43 rfl size23)) rfl ⟨by rw [HRf.out]; rfl, below_setRow HP4.out.bel (Nat.le_refl _)⟩
        | false =>
          cases hb with
          | true =>
            as_aux_lemma =>
            have HRf : Hid (parseR s = none) := by unfold Hid; rw [HR.out]; rfl
            go_wp2
            go_step3
            refine (⟨rfl, ?_⟩ : (0 : Nat) = 0 ∧ _)
            go_wp2_with (refine wpList_store_row rfl 43 (.tmp 2) (.tmp 90) rfl w.heap.size #[.string ⟨#[]⟩, .string ⟨#[]⟩, .string ⟨#[]⟩, .string ⟨#[]⟩, .string ⟨#[]⟩, .int .i64 0] rfl rfl 43 #[.string ⟨#[]⟩, .string ⟨#[]⟩, .string ⟨#[]⟩, .string ⟨#[]⟩, .string ⟨#[]⟩, .int .i64 0] HP4.out.z size23 rfl ones23 ?_)
            rw [Exit.noGoto_ret]
            exact bodyPost_ret (results_box rfl _ _ w.heap.size _ rfl (run_loadVar_row _ w.heap.size 43 43 _ (0, 0) _ (setRow_heap _ _ _ _ 43 _ HP4.out.z) Tryz.underlying43 rfl size23)) rfl ⟨by rw [HRf.out]; rfl, below_setRow HP4.out.bel (Nat.le_refl _)⟩
          | false =>
            cases an with
            | false =>
              as_aux_lemma =>
              have HRf : Hid (parseR s = none) := by unfold Hid; rw [HR.out]; rfl
              go_wp2_with fail
              refine (HAN.out _).mono ?_
              rintro _ V1 ⟨rfl, hb1⟩
              have HQ1 := hidM (HP4.out.next hb1)
              have HG1 := hidM (box_kept HRW4.out hb1)
              clear hb1 c3 c4 c5
              have c3 : V1.cell? ⟨w.heap.size + 1, 3, none⟩ = some (.string pr) := HQ1.out.cell 3
              have c4 : V1.cell? ⟨w.heap.size + 1, 4, none⟩ = some (.string bu) := HQ1.out.cell 4
              have c5 : V1.cell? ⟨w.heap.size + 1, 5, none⟩ = some (.int .i64 2) := HQ1.out.cell 5
              go_wp2
              go_step3
              refine (⟨rfl, ?_⟩ : (0 : Nat) = 0 ∧ _)
              go_wp2_with (refine wpList_store_row rfl 43 (.tmp 2) (.tmp 90) rfl w.heap.size #[.string ⟨#[]⟩, .string ⟨#[]⟩, .string ⟨#[]⟩, .string ⟨#[]⟩, .string ⟨#[]⟩, .int .i64 0] rfl rfl 43 #[.string ⟨#[]⟩, .string ⟨#[]⟩, .string ⟨#[]⟩, .string ⟨#[]⟩, .string ⟨#[]⟩, .int .i64 0] HQ1.out.z size23 rfl ones23 ?_)
              rw [Exit.noGoto_ret]
              exact bodyPost_ret (results_box rfl _ _ w.heap.size _ rfl (run_loadVar_row _ w.heap.size 43 43 _ (0, 0) _ (setRow_heap _ _ _ _ 43 _ HQ1.out.z) Tryz.underlying43 rfl size23)) rfl ⟨by rw [HRf.out]; rfl, below_setRow HQ1.out.bel (Nat.le_refl _)⟩
            | true =>
              as_aux_lemma =>
              go_wp2_with fail
              refine (HAN.out _).mono ?_
              rintro _ V1 ⟨rfl, hb1⟩
              have HQ1 := hidM (HP4.out.next hb1)
              have HG1 := hidM (box_kept HRW4.out hb1)
              clear hb1 c3 c4 c5
              have c3 : V1.cell? ⟨w.heap.size + 1, 3, none⟩ = some (.string pr) := HQ1.out.cell 3
              have c4 : V1.cell? ⟨w.heap.size + 1, 4, none⟩ = some (.string bu) := HQ1.out.cell 4
              have c5 : V1.cell? ⟨w.heap.size + 1, 5, none⟩ = some (.int .i64 2) := HQ1.out.cell 5
              obtain ⟨i0, hi, hz0, hz1, hz2⟩ := info_parts info9
              have HOW : Hid ((V1.alloc (.cells #[.string ⟨#[48]⟩, .string ⟨#[48]⟩] 9)).ownsRow (w.heap.size + 2) 9 1 (.slice (some ⟨G, 0, none⟩) 1 1) 1 [.string p0]) := by
                refine ⟨rfl, .inr ⟨G, 1, _, rfl, HBG.out, (_root_.Go.heap_alloc_old _ _ (Array.getElem?_eq_some_iff.1 HG1.out).1).trans HG1.out, Nat.le_refl _, by unfold maxLen; decide, rfl, rfl⟩⟩
              have HBA : Hid (Below V1.heap.size V1 (V1.alloc (.cells #[.string ⟨#[48]⟩, .string ⟨#[48]⟩] 9))) := (Below.refl _ _).alloc (Nat.le_refl _) _
              have HQA := hidM (HQ1.out.next HBA.out)
              have hzs : (w.heap.size + 2 : Nat) ≤ (V1.alloc (.cells #[.string ⟨#[48]⟩, .string ⟨#[48]⟩] 9)).heap.size := by
                have := (Array.getElem?_eq_some_iff.1 HQA.out.v).1
                omega
              have HZS := hidM hzs
              clear hzs
              go_wp2_with (at_builtin; refine wpList_append_own _ rfl _ _ 47 rfl (w.heap.size + 2) 9 i0 (.string ByteArray.empty) 1 16 Tryz.underlying47 hi hz0 hz1 hz2 rfl (by decide) _ 1 [.string p0] rfl HOW.out ⟨V1.heap.size, 0, none⟩ 2 2 [.string ⟨#[48]⟩, .string ⟨#[48]⟩] rfl rfl ?qc2 ?qc3 (by unfold maxLen; decide) (by decide) HZS.out ?_)
              case qc2 =>
                intro j u hj
                rw [Addr.add_lit, cell_of_row _ _ _ _ 9 (0, 0) (_root_.Go.heap_alloc_new _ _)]
                rw [← hj]
                match j with
                | 0 => rfl
                | 1 => rfl
                | j + 2 => simp at hj
              case qc3 =>
                intro u hu
                simp only [List.mem_cons, List.not_mem_nil, or_false] at hu
                rcases hu with rfl | rfl <;> rfl
              intro v' V9 hown hgrow hnil
              have HPG : Hid (PS w #[.string ⟨#[]⟩, .string ⟨#[]⟩, .string ⟨#[]⟩, .string pr, .string bu, .int .i64 2] V9) := HQA.out.grow (Below.refl_grown HZS.out hgrow (by intro j hj; simp [Value.ownBlock] at hj; have := HBG.out; omega))
              rcases hown.2 with ⟨hx, hn0⟩ | ⟨g, cap, cur, rfl, hbase, hbk, h1, h2, h3, h4⟩
              · exact absurd hn0 (by decide)
              have x0 : V9.cell? ⟨g, 0, none⟩ = some (.string p0) := by have := World.ownsRow.cells hown (g := g) rfl 0 (.string p0) rfl; rw [Addr.add_lit] at this; exact this
              have x1 : V9.cell? ⟨g, 1, none⟩ = some (.string ⟨#[48]⟩) := by have := World.ownsRow.cells hown (g := g) rfl 1 (.string ⟨#[48]⟩) rfl; rw [Addr.add_lit] at this; exact this
              have x2 : V9.cell? ⟨g, 2, none⟩ = some (.string ⟨#[48]⟩) := by have := World.ownsRow.cells hown (g := g) rfl 2 (.string ⟨#[48]⟩) rfl; rw [Addr.add_lit] at this; exact this
              have gn1 : g ≠ w.heap.size + 1 := by omega
              have gn2 : w.heap.size + 1 ≠ g := by omega
              have d0 : V9.cell? ⟨w.heap.size + 1, 0, none⟩ = some (.string ⟨#[]⟩) := HPG.out.cell 0
              have d1 : V9.cell? ⟨w.heap.size + 1, 1, none⟩ = some (.string ⟨#[]⟩) := HPG.out.cell 1
              have d2 : V9.cell? ⟨w.heap.size + 1, 2, none⟩ = some (.string ⟨#[]⟩) := HPG.out.cell 2
              have f0 := HPG.out.free 0
              have f1 := HPG.out.free 1
              have f2 := HPG.out.free 2
              clear hown hgrow hnil hbk h1 h2 h3 h4 hbase c3 c4 c5
              go_upto_region 14 with fail
              go_region_held3 (fun w' => w'.cell? ⟨g, 0, none⟩ = V9.cell? ⟨g, 0, none⟩ ∧ w'.cell? ⟨g, 1, none⟩ = V9.cell? ⟨g, 1, none⟩ ∧ w'.cell? ⟨g, 2, none⟩ = V9.cell? ⟨g, 2, none⟩) (go_keep) (fail)
              have HPF : Hid (PS w #[.string p0, .string ⟨#[48]⟩, .string ⟨#[48]⟩, .string pr, .string bu, .int .i64 2] (((V9.setCell ⟨w.heap.size + 1, 0, none⟩ (.string p0)).setCell ⟨w.heap.size + 1, 1, none⟩ (.string ⟨#[48]⟩)).setCell ⟨w.heap.size + 1, 2, none⟩ (.string ⟨#[48]⟩)).drew) := (((HPG.out.set 0 (.string p0)).set 1 (.string ⟨#[48]⟩)).set 2 (.string ⟨#[48]⟩)).drew
              clear x0 x1 x2 d0 d1 d2 f0 f1 f2 HPG
              generalize (((V9.setCell ⟨w.heap.size + 1, 0, none⟩ (.string p0)).setCell ⟨w.heap.size + 1, 1, none⟩ (.string ⟨#[48]⟩)).setCell ⟨w.heap.size + 1, 2, none⟩ (.string ⟨#[48]⟩)).drew = VF at *
              have k0 : VF.cell? ⟨w.heap.size + 1, 0, none⟩ = some (.string p0) := HPF.out.cell 0
              have k1 : VF.cell? ⟨w.heap.size + 1, 1, none⟩ = some (.string ⟨#[48]⟩) := HPF.out.cell 1
              have k2 : VF.cell? ⟨w.heap.size + 1, 2, none⟩ = some (.string ⟨#[48]⟩) := HPF.out.cell 2
              have k3 : VF.cell? ⟨w.heap.size + 1, 3, none⟩ = some (.string pr) := HPF.out.cell 3
              have k4 : VF.cell? ⟨w.heap.size + 1, 4, none⟩ = some (.string bu) := HPF.out.cell 4
              have k5 : VF.cell? ⟨w.heap.size + 1, 5, none⟩ = some (.int .i64 2) := HPF.out.cell 5
              go_wp2_with (refine wpList_store_row rfl 43 (.tmp 2) (.tmp 89) rfl w.heap.size #[.string p0, .string ⟨#[48]⟩, .string ⟨#[48]⟩, .string pr, .string bu, .int .i64 2] rfl rfl 43 #[.string ⟨#[]⟩, .string ⟨#[]⟩, .string ⟨#[]⟩, .string ⟨#[]⟩, .string ⟨#[]⟩, .int .i64 0] HPF.out.z size23 rfl (ones23v _ _ _ _ _ _) ?_)
              simp only [Exit.jump]
              exact bodyPost_ret (results_box rfl _ _ w.heap.size #[.string p0, .string ⟨#[48]⟩, .string ⟨#[48]⟩, .string pr, .string bu, .int .i64 2] rfl (run_loadVar_row _ w.heap.size 43 43 #[.string p0, .string ⟨#[48]⟩, .string ⟨#[48]⟩, .string pr, .string bu, .int .i64 2] (0, 0) _ (setRow_heap _ _ _ _ 43 _ HPF.out.z) Tryz.underlying43 rfl size23)) rfl ⟨by rw [HR.out]; rfl, below_setRow HPF.out.bel (Nat.le_refl _)⟩
      · change Hid (PS w #[.string ⟨#[]⟩, .string ⟨#[]⟩, .string ⟨#[]⟩, .string pr, .string bu, .int .i64 1] W4) at HP4
        have c3 : W4.cell? ⟨w.heap.size + 1, 3, none⟩ = some (.string pr) := HP4.out.cell 3
        have c4 : W4.cell? ⟨w.heap.size + 1, 4, none⟩ = some (.string bu) := HP4.out.cell 4
        have c5 : W4.cell? ⟨w.heap.size + 1, 5, none⟩ = some (.int .i64 1) := HP4.out.cell 5
        cases hp with
        | true =>
          as_aux_lemma =>
          have HRf : Hid (parseR s = none) := by unfold Hid; rw [HR.out]; cases hb <;> rfl
          go_wp2
          go_step3
          refine (⟨rfl, ?_⟩ : (0 : Nat) = 0 ∧ _)
          go_wp2_with (refine wpList_store_row rfl 43 (.tmp 2) (.tmp 90) rfl w.heap.size #[.string ⟨#[]⟩, .string ⟨#[]⟩, .string ⟨#[]⟩, .string ⟨#[]⟩, .string ⟨#[]⟩, .int .i64 0] rfl rfl 43 #[.string ⟨#[]⟩, .string ⟨#[]⟩, .string ⟨#[]⟩, .string ⟨#[]⟩, .string ⟨#[]⟩, .int .i64 0] HP4.out.z size23 rfl ones23 ?_)
          rw [Exit.noGoto_ret]
          exact bodyPost_ret (results_box rfl _ _ w.heap.size _ rfl (run_loadVar_row _ w.heap.size 43 43 _ (0, 0) _ (setRow_heap _ _ _ _ 43 _ HP4.out.z) Tryz.underlying43 rfl size23)) rfl ⟨by rw [HRf.out]; rfl, below_setRow HP4.out.bel (Nat.le_refl _)⟩
        | false =>
          cases hb with
          | true =>
            as_aux_lemma =>
            have HRf : Hid (parseR s = none) := by unfold Hid; rw [HR.out]; rfl
            go_wp2
            go_step3
            refine (⟨rfl, ?_⟩ : (0 : Nat) = 0 ∧ _)
            go_wp2_with (refine wpList_store_row rfl 43 (.tmp 2) (.tmp 90) rfl w.heap.size #[.string ⟨#[]⟩, .string ⟨#[]⟩, .string ⟨#[]⟩, .string ⟨#[]⟩, .string ⟨#[]⟩, .int .i64 0] rfl rfl 43 #[.string ⟨#[]⟩, .string ⟨#[]⟩, .string ⟨#[]⟩, .string ⟨#[]⟩, .string ⟨#[]⟩, .int .i64 0] HP4.out.z size23 rfl ones23 ?_)
            rw [Exit.noGoto_ret]
            exact bodyPost_ret (results_box rfl _ _ w.heap.size _ rfl (run_loadVar_row _ w.heap.size 43 43 _ (0, 0) _ (setRow_heap _ _ _ _ 43 _ HP4.out.z) Tryz.underlying43 rfl size23)) rfl ⟨by rw [HRf.out]; rfl, below_setRow HP4.out.bel (Nat.le_refl _)⟩
          | false =>
            cases an with
            | false =>
              as_aux_lemma =>
              have HRf : Hid (parseR s = none) := by unfold Hid; rw [HR.out]; rfl
              go_wp2_with fail
              refine (HAN.out _).mono ?_
              rintro _ V1 ⟨rfl, hb1⟩
              have HQ1 := hidM (HP4.out.next hb1)
              have HG1 := hidM (box_kept HRW4.out hb1)
              clear hb1 c3 c4 c5
              have c3 : V1.cell? ⟨w.heap.size + 1, 3, none⟩ = some (.string pr) := HQ1.out.cell 3
              have c4 : V1.cell? ⟨w.heap.size + 1, 4, none⟩ = some (.string bu) := HQ1.out.cell 4
              have c5 : V1.cell? ⟨w.heap.size + 1, 5, none⟩ = some (.int .i64 1) := HQ1.out.cell 5
              go_wp2
              go_step3
              refine (⟨rfl, ?_⟩ : (0 : Nat) = 0 ∧ _)
              go_wp2_with (refine wpList_store_row rfl 43 (.tmp 2) (.tmp 90) rfl w.heap.size #[.string ⟨#[]⟩, .string ⟨#[]⟩, .string ⟨#[]⟩, .string ⟨#[]⟩, .string ⟨#[]⟩, .int .i64 0] rfl rfl 43 #[.string ⟨#[]⟩, .string ⟨#[]⟩, .string ⟨#[]⟩, .string ⟨#[]⟩, .string ⟨#[]⟩, .int .i64 0] HQ1.out.z size23 rfl ones23 ?_)
              rw [Exit.noGoto_ret]
              exact bodyPost_ret (results_box rfl _ _ w.heap.size _ rfl (run_loadVar_row _ w.heap.size 43 43 _ (0, 0) _ (setRow_heap _ _ _ _ 43 _ HQ1.out.z) Tryz.underlying43 rfl size23)) rfl ⟨by rw [HRf.out]; rfl, below_setRow HQ1.out.bel (Nat.le_refl _)⟩
            | true =>
              as_aux_lemma =>
              go_wp2_with fail
              refine (HAN.out _).mono ?_
              rintro _ V1 ⟨rfl, hb1⟩
              have HQ1 := hidM (HP4.out.next hb1)
              have HG1 := hidM (box_kept HRW4.out hb1)
              clear hb1 c3 c4 c5
              have c3 : V1.cell? ⟨w.heap.size + 1, 3, none⟩ = some (.string pr) := HQ1.out.cell 3
              have c4 : V1.cell? ⟨w.heap.size + 1, 4, none⟩ = some (.string bu) := HQ1.out.cell 4
              have c5 : V1.cell? ⟨w.heap.size + 1, 5, none⟩ = some (.int .i64 1) := HQ1.out.cell 5
              obtain ⟨i0, hi, hz0, hz1, hz2⟩ := info_parts info9
              have HOW : Hid ((V1.alloc (.cells #[.string ⟨#[48]⟩, .string ⟨#[48]⟩] 9)).ownsRow (w.heap.size + 2) 9 1 (.slice (some ⟨G, 0, none⟩) 2 2) 2 [.string p0, .string p1]) := by
                refine ⟨rfl, .inr ⟨G, 2, _, rfl, HBG.out, (_root_.Go.heap_alloc_old _ _ (Array.getElem?_eq_some_iff.1 HG1.out).1).trans HG1.out, Nat.le_refl _, by unfold maxLen; decide, rfl, rfl⟩⟩
              have HBA : Hid (Below V1.heap.size V1 (V1.alloc (.cells #[.string ⟨#[48]⟩, .string ⟨#[48]⟩] 9))) := (Below.refl _ _).alloc (Nat.le_refl _) _
              have HQA := hidM (HQ1.out.next HBA.out)
              have hzs : (w.heap.size + 2 : Nat) ≤ (V1.alloc (.cells #[.string ⟨#[48]⟩, .string ⟨#[48]⟩] 9)).heap.size := by
                have := (Array.getElem?_eq_some_iff.1 HQA.out.v).1
                omega
              have HZS := hidM hzs
              clear hzs
              go_wp2_with (at_builtin; refine wpList_append_own _ rfl _ _ 47 rfl (w.heap.size + 2) 9 i0 (.string ByteArray.empty) 1 16 Tryz.underlying47 hi hz0 hz1 hz2 rfl (by decide) _ 2 [.string p0, .string p1] rfl HOW.out ⟨V1.heap.size, 0, none⟩ 2 2 [.string ⟨#[48]⟩, .string ⟨#[48]⟩] rfl rfl ?qc2 ?qc3 (by unfold maxLen; decide) (by decide) HZS.out ?_)
              case qc2 =>
                intro j u hj
                rw [Addr.add_lit, cell_of_row _ _ _ _ 9 (0, 0) (_root_.Go.heap_alloc_new _ _)]
                rw [← hj]
                match j with
                | 0 => rfl
                | 1 => rfl
                | j + 2 => simp at hj
              case qc3 =>
                intro u hu
                simp only [List.mem_cons, List.not_mem_nil, or_false] at hu
                rcases hu with rfl | rfl <;> rfl
              intro v' V9 hown hgrow hnil
              have HPG : Hid (PS w #[.string ⟨#[]⟩, .string ⟨#[]⟩, .string ⟨#[]⟩, .string pr, .string bu, .int .i64 1] V9) := HQA.out.grow (Below.refl_grown HZS.out hgrow (by intro j hj; simp [Value.ownBlock] at hj; have := HBG.out; omega))
              rcases hown.2 with ⟨hx, hn0⟩ | ⟨g, cap, cur, rfl, hbase, hbk, h1, h2, h3, h4⟩
              · exact absurd hn0 (by decide)
              have x0 : V9.cell? ⟨g, 0, none⟩ = some (.string p0) := by have := World.ownsRow.cells hown (g := g) rfl 0 (.string p0) rfl; rw [Addr.add_lit] at this; exact this
              have x1 : V9.cell? ⟨g, 1, none⟩ = some (.string p1) := by have := World.ownsRow.cells hown (g := g) rfl 1 (.string p1) rfl; rw [Addr.add_lit] at this; exact this
              have x2 : V9.cell? ⟨g, 2, none⟩ = some (.string ⟨#[48]⟩) := by have := World.ownsRow.cells hown (g := g) rfl 2 (.string ⟨#[48]⟩) rfl; rw [Addr.add_lit] at this; exact this
              have gn1 : g ≠ w.heap.size + 1 := by omega
              have gn2 : w.heap.size + 1 ≠ g := by omega
              have d0 : V9.cell? ⟨w.heap.size + 1, 0, none⟩ = some (.string ⟨#[]⟩) := HPG.out.cell 0
              have d1 : V9.cell? ⟨w.heap.size + 1, 1, none⟩ = some (.string ⟨#[]⟩) := HPG.out.cell 1
              have d2 : V9.cell? ⟨w.heap.size + 1, 2, none⟩ = some (.string ⟨#[]⟩) := HPG.out.cell 2
              have f0 := HPG.out.free 0
              have f1 := HPG.out.free 1
              have f2 := HPG.out.free 2
              clear hown hgrow hnil hbk h1 h2 h3 h4 hbase c3 c4 c5
              go_upto_region 14 with fail
              go_region_held3 (fun w' => w'.cell? ⟨g, 0, none⟩ = V9.cell? ⟨g, 0, none⟩ ∧ w'.cell? ⟨g, 1, none⟩ = V9.cell? ⟨g, 1, none⟩ ∧ w'.cell? ⟨g, 2, none⟩ = V9.cell? ⟨g, 2, none⟩) (go_keep) (fail)
              have HPF : Hid (PS w #[.string p0, .string p1, .string ⟨#[48]⟩, .string pr, .string bu, .int .i64 1] (((V9.setCell ⟨w.heap.size + 1, 0, none⟩ (.string p0)).setCell ⟨w.heap.size + 1, 1, none⟩ (.string p1)).setCell ⟨w.heap.size + 1, 2, none⟩ (.string ⟨#[48]⟩)).drew) := (((HPG.out.set 0 (.string p0)).set 1 (.string p1)).set 2 (.string ⟨#[48]⟩)).drew
              clear x0 x1 x2 d0 d1 d2 f0 f1 f2 HPG
              generalize (((V9.setCell ⟨w.heap.size + 1, 0, none⟩ (.string p0)).setCell ⟨w.heap.size + 1, 1, none⟩ (.string p1)).setCell ⟨w.heap.size + 1, 2, none⟩ (.string ⟨#[48]⟩)).drew = VF at *
              have k0 : VF.cell? ⟨w.heap.size + 1, 0, none⟩ = some (.string p0) := HPF.out.cell 0
              have k1 : VF.cell? ⟨w.heap.size + 1, 1, none⟩ = some (.string p1) := HPF.out.cell 1
              have k2 : VF.cell? ⟨w.heap.size + 1, 2, none⟩ = some (.string ⟨#[48]⟩) := HPF.out.cell 2
              have k3 : VF.cell? ⟨w.heap.size + 1, 3, none⟩ = some (.string pr) := HPF.out.cell 3
              have k4 : VF.cell? ⟨w.heap.size + 1, 4, none⟩ = some (.string bu) := HPF.out.cell 4
              have k5 : VF.cell? ⟨w.heap.size + 1, 5, none⟩ = some (.int .i64 1) := HPF.out.cell 5
              go_wp2_with (refine wpList_store_row rfl 43 (.tmp 2) (.tmp 89) rfl w.heap.size #[.string p0, .string p1, .string ⟨#[48]⟩, .string pr, .string bu, .int .i64 1] rfl rfl 43 #[.string ⟨#[]⟩, .string ⟨#[]⟩, .string ⟨#[]⟩, .string ⟨#[]⟩, .string ⟨#[]⟩, .int .i64 0] HPF.out.z size23 rfl (ones23v _ _ _ _ _ _) ?_)
              simp only [Exit.jump]
              exact bodyPost_ret (results_box rfl _ _ w.heap.size #[.string p0, .string p1, .string ⟨#[48]⟩, .string pr, .string bu, .int .i64 1] rfl (run_loadVar_row _ w.heap.size 43 43 #[.string p0, .string p1, .string ⟨#[48]⟩, .string pr, .string bu, .int .i64 1] (0, 0) _ (setRow_heap _ _ _ _ 43 _ HPF.out.z) Tryz.underlying43 rfl size23)) rfl ⟨by rw [HR.out]; rfl, below_setRow HPF.out.bel (Nat.le_refl _)⟩
      · change Hid (PS w #[.string ⟨#[]⟩, .string ⟨#[]⟩, .string ⟨#[]⟩, .string pr, .string bu, .int .i64 0] W4) at HP4
        have c3 : W4.cell? ⟨w.heap.size + 1, 3, none⟩ = some (.string pr) := HP4.out.cell 3
        have c4 : W4.cell? ⟨w.heap.size + 1, 4, none⟩ = some (.string bu) := HP4.out.cell 4
        have c5 : W4.cell? ⟨w.heap.size + 1, 5, none⟩ = some (.int .i64 0) := HP4.out.cell 5
        cases hp with
        | true =>
          cases ap with
          | false =>
            as_aux_lemma =>
            have HRf : Hid (parseR s = none) := by unfold Hid; rw [HR.out]; cases hb <;> rfl
            go_wp2_with fail
            refine (HAP.out _).mono ?_
            rintro _ V1 ⟨rfl, hb1⟩
            have HQ1 := hidM (HP4.out.next hb1)
            have HG1 := hidM (box_kept HRW4.out hb1)
            clear hb1 c3 c4 c5
            have c3 : V1.cell? ⟨w.heap.size + 1, 3, none⟩ = some (.string pr) := HQ1.out.cell 3
            have c4 : V1.cell? ⟨w.heap.size + 1, 4, none⟩ = some (.string bu) := HQ1.out.cell 4
            have c5 : V1.cell? ⟨w.heap.size + 1, 5, none⟩ = some (.int .i64 0) := HQ1.out.cell 5
            go_wp2
            go_step3
            refine (⟨rfl, ?_⟩ : (0 : Nat) = 0 ∧ _)
            go_wp2_with (refine wpList_store_row rfl 43 (.tmp 2) (.tmp 90) rfl w.heap.size #[.string ⟨#[]⟩, .string ⟨#[]⟩, .string ⟨#[]⟩, .string ⟨#[]⟩, .string ⟨#[]⟩, .int .i64 0] rfl rfl 43 #[.string ⟨#[]⟩, .string ⟨#[]⟩, .string ⟨#[]⟩, .string ⟨#[]⟩, .string ⟨#[]⟩, .int .i64 0] HQ1.out.z size23 rfl ones23 ?_)
            rw [Exit.noGoto_ret]
            exact bodyPost_ret (results_box rfl _ _ w.heap.size _ rfl (run_loadVar_row _ w.heap.size 43 43 _ (0, 0) _ (setRow_heap _ _ _ _ 43 _ HQ1.out.z) Tryz.underlying43 rfl size23)) rfl ⟨by rw [HRf.out]; rfl, below_setRow HQ1.out.bel (Nat.le_refl _)⟩
          | true =>
            cases hb with
            | true =>
              cases aw with
              | false =>
                as_aux_lemma =>
                have HRf : Hid (parseR s = none) := by unfold Hid; rw [HR.out]; rfl
                go_wp2_with fail
                refine (HAP.out _).mono ?_
                rintro _ V1 ⟨rfl, hb1⟩
                have HQ1 := hidM (HP4.out.next hb1)
                have HG1 := hidM (box_kept HRW4.out hb1)
                clear hb1 c3 c4 c5
                have c3 : V1.cell? ⟨w.heap.size + 1, 3, none⟩ = some (.string pr) := HQ1.out.cell 3
                have c4 : V1.cell? ⟨w.heap.size + 1, 4, none⟩ = some (.string bu) := HQ1.out.cell 4
                have c5 : V1.cell? ⟨w.heap.size + 1, 5, none⟩ = some (.int .i64 0) := HQ1.out.cell 5
                go_wp2_with fail
                refine (HAW.out _).mono ?_
                rintro _ V2 ⟨rfl, hb2⟩
                have HQ2 := hidM (HQ1.out.next hb2)
                have HG2 := hidM (box_kept HG1.out hb2)
                clear hb2 c3 c4 c5
                have c3 : V2.cell? ⟨w.heap.size + 1, 3, none⟩ = some (.string pr) := HQ2.out.cell 3
                have c4 : V2.cell? ⟨w.heap.size + 1, 4, none⟩ = some (.string bu) := HQ2.out.cell 4
                have c5 : V2.cell? ⟨w.heap.size + 1, 5, none⟩ = some (.int .i64 0) := HQ2.out.cell 5
                go_wp2
                go_step3
                refine (⟨rfl, ?_⟩ : (0 : Nat) = 0 ∧ _)
                go_wp2_with (refine wpList_store_row rfl 43 (.tmp 2) (.tmp 90) rfl w.heap.size #[.string ⟨#[]⟩, .string ⟨#[]⟩, .string ⟨#[]⟩, .string ⟨#[]⟩, .string ⟨#[]⟩, .int .i64 0] rfl rfl 43 #[.string ⟨#[]⟩, .string ⟨#[]⟩, .string ⟨#[]⟩, .string ⟨#[]⟩, .string ⟨#[]⟩, .int .i64 0] HQ2.out.z size23 rfl ones23 ?_)
                rw [Exit.noGoto_ret]
                exact bodyPost_ret (results_box rfl _ _ w.heap.size _ rfl (run_loadVar_row _ w.heap.size 43 43 _ (0, 0) _ (setRow_heap _ _ _ _ 43 _ HQ2.out.z) Tryz.underlying43 rfl size23)) rfl ⟨by rw [HRf.out]; rfl, below_setRow HQ2.out.bel (Nat.le_refl _)⟩
              | true =>
                cases an with
                | false =>
                  as_aux_lemma =>
                  have HRf : Hid (parseR s = none) := by unfold Hid; rw [HR.out]; rfl
                  go_wp2_with fail
                  refine (HAP.out _).mono ?_
                  rintro _ V1 ⟨rfl, hb1⟩
                  have HQ1 := hidM (HP4.out.next hb1)
                  have HG1 := hidM (box_kept HRW4.out hb1)
                  clear hb1 c3 c4 c5
                  have c3 : V1.cell? ⟨w.heap.size + 1, 3, none⟩ = some (.string pr) := HQ1.out.cell 3
                  have c4 : V1.cell? ⟨w.heap.size + 1, 4, none⟩ = some (.string bu) := HQ1.out.cell 4
                  have c5 : V1.cell? ⟨w.heap.size + 1, 5, none⟩ = some (.int .i64 0) := HQ1.out.cell 5
                  go_wp2_with fail
                  refine (HAW.out _).mono ?_
                  rintro _ V2 ⟨rfl, hb2⟩
                  have HQ2 := hidM (HQ1.out.next hb2)
                  have HG2 := hidM (box_kept HG1.out hb2)
                  clear hb2 c3 c4 c5
                  have c3 : V2.cell? ⟨w.heap.size + 1, 3, none⟩ = some (.string pr) := HQ2.out.cell 3
                  have c4 : V2.cell? ⟨w.heap.size + 1, 4, none⟩ = some (.string bu) := HQ2.out.cell 4
                  have c5 : V2.cell? ⟨w.heap.size + 1, 5, none⟩ = some (.int .i64 0) := HQ2.out.cell 5
                  go_wp2_with fail
                  refine (HAN.out _).mono ?_
                  rintro _ V3 ⟨rfl, hb3⟩
                  have HQ3 := hidM (HQ2.out.next hb3)
                  have HG3 := hidM (box_kept HG2.out hb3)
                  clear hb3 c3 c4 c5
                  have c3 : V3.cell? ⟨w.heap.size + 1, 3, none⟩ = some (.string pr) := HQ3.out.cell 3
                  have c4 : V3.cell? ⟨w.heap.size + 1, 4, none⟩ = some (.string bu) := HQ3.out.cell 4
                  have c5 : V3.cell? ⟨w.heap.size + 1, 5, none⟩ = some (.int .i64 0) := HQ3.out.cell 5
                  go_wp2
                  go_step3
                  refine (⟨rfl, ?_⟩ : (0 : Nat) = 0 ∧ _)
                  go_wp2_with (refine wpList_store_row rfl 43 (.tmp 2) (.tmp 90) rfl w.heap.size #[.string ⟨#[]⟩, .string ⟨#[]⟩, .string ⟨#[]⟩, .string ⟨#[]⟩, .string ⟨#[]⟩, .int .i64 0] rfl rfl 43 #[.string ⟨#[]⟩, .string ⟨#[]⟩, .string ⟨#[]⟩, .string ⟨#[]⟩, .string ⟨#[]⟩, .int .i64 0] HQ3.out.z size23 rfl ones23 ?_)
                  rw [Exit.noGoto_ret]
                  exact bodyPost_ret (results_box rfl _ _ w.heap.size _ rfl (run_loadVar_row _ w.heap.size 43 43 _ (0, 0) _ (setRow_heap _ _ _ _ 43 _ HQ3.out.z) Tryz.underlying43 rfl size23)) rfl ⟨by rw [HRf.out]; rfl, below_setRow HQ3.out.bel (Nat.le_refl _)⟩
                | true =>
                  as_aux_lemma =>
                  go_wp2_with fail
                  refine (HAP.out _).mono ?_
                  rintro _ V1 ⟨rfl, hb1⟩
                  have HQ1 := hidM (HP4.out.next hb1)
                  have HG1 := hidM (box_kept HRW4.out hb1)
                  clear hb1 c3 c4 c5
                  have c3 : V1.cell? ⟨w.heap.size + 1, 3, none⟩ = some (.string pr) := HQ1.out.cell 3
                  have c4 : V1.cell? ⟨w.heap.size + 1, 4, none⟩ = some (.string bu) := HQ1.out.cell 4
                  have c5 : V1.cell? ⟨w.heap.size + 1, 5, none⟩ = some (.int .i64 0) := HQ1.out.cell 5
                  go_wp2_with fail
                  refine (HAW.out _).mono ?_
                  rintro _ V2 ⟨rfl, hb2⟩
                  have HQ2 := hidM (HQ1.out.next hb2)
                  have HG2 := hidM (box_kept HG1.out hb2)
                  clear hb2 c3 c4 c5
                  have c3 : V2.cell? ⟨w.heap.size + 1, 3, none⟩ = some (.string pr) := HQ2.out.cell 3
                  have c4 : V2.cell? ⟨w.heap.size + 1, 4, none⟩ = some (.string bu) := HQ2.out.cell 4
                  have c5 : V2.cell? ⟨w.heap.size + 1, 5, none⟩ = some (.int .i64 0) := HQ2.out.cell 5
                  go_wp2_with fail
                  refine (HAN.out _).mono ?_
                  rintro _ V3 ⟨rfl, hb3⟩
                  have HQ3 := hidM (HQ2.out.next hb3)
                  have HG3 := hidM (box_kept HG2.out hb3)
                  clear hb3 c3 c4 c5
                  have c3 : V3.cell? ⟨w.heap.size + 1, 3, none⟩ = some (.string pr) := HQ3.out.cell 3
                  have c4 : V3.cell? ⟨w.heap.size + 1, 4, none⟩ = some (.string bu) := HQ3.out.cell 4
                  have c5 : V3.cell? ⟨w.heap.size + 1, 5, none⟩ = some (.int .i64 0) := HQ3.out.cell 5
                  obtain ⟨i0, hi, hz0, hz1, hz2⟩ := info_parts info9
                  have HOW : Hid ((V3.alloc (.cells #[.string ⟨#[48]⟩, .string ⟨#[48]⟩] 9)).ownsRow (w.heap.size + 2) 9 1 (.slice (some ⟨G, 0, none⟩) 3 3) 3 [.string p0, .string p1, .string p2]) := by
                    refine ⟨rfl, .inr ⟨G, 3, _, rfl, HBG.out, (_root_.Go.heap_alloc_old _ _ (Array.getElem?_eq_some_iff.1 HG3.out).1).trans HG3.out, Nat.le_refl _, by unfold maxLen; decide, rfl, rfl⟩⟩
                  have HBA : Hid (Below V3.heap.size V3 (V3.alloc (.cells #[.string ⟨#[48]⟩, .string ⟨#[48]⟩] 9))) := (Below.refl _ _).alloc (Nat.le_refl _) _
                  have HQA := hidM (HQ3.out.next HBA.out)
                  have hzs : (w.heap.size + 2 : Nat) ≤ (V3.alloc (.cells #[.string ⟨#[48]⟩, .string ⟨#[48]⟩] 9)).heap.size := by
                    have := (Array.getElem?_eq_some_iff.1 HQA.out.v).1
                    omega
                  have HZS := hidM hzs
                  clear hzs
                  go_wp2_with (at_builtin; refine wpList_append_own _ rfl _ _ 47 rfl (w.heap.size + 2) 9 i0 (.string ByteArray.empty) 1 16 Tryz.underlying47 hi hz0 hz1 hz2 rfl (by decide) _ 3 [.string p0, .string p1, .string p2] rfl HOW.out ⟨V3.heap.size, 0, none⟩ 2 2 [.string ⟨#[48]⟩, .string ⟨#[48]⟩] rfl rfl ?qc2 ?qc3 (by unfold maxLen; decide) (by decide) HZS.out ?_)
                  case qc2 =>
                    intro j u hj
                    rw [Addr.add_lit, cell_of_row _ _ _ _ 9 (0, 0) (_root_.Go.heap_alloc_new _ _)]
                    rw [← hj]
                    match j with
                    | 0 => rfl
                    | 1 => rfl
                    | j + 2 => simp at hj
                  case qc3 =>
                    intro u hu
                    simp only [List.mem_cons, List.not_mem_nil, or_false] at hu
                    rcases hu with rfl | rfl <;> rfl
                  intro v' V9 hown hgrow hnil
                  have HPG : Hid (PS w #[.string ⟨#[]⟩, .string ⟨#[]⟩, .string ⟨#[]⟩, .string pr, .string bu, .int .i64 0] V9) := HQA.out.grow (Below.refl_grown HZS.out hgrow (by intro j hj; simp [Value.ownBlock] at hj; have := HBG.out; omega))
                  rcases hown.2 with ⟨hx, hn0⟩ | ⟨g, cap, cur, rfl, hbase, hbk, h1, h2, h3, h4⟩
                  · exact absurd hn0 (by decide)
                  have x0 : V9.cell? ⟨g, 0, none⟩ = some (.string p0) := by have := World.ownsRow.cells hown (g := g) rfl 0 (.string p0) rfl; rw [Addr.add_lit] at this; exact this
                  have x1 : V9.cell? ⟨g, 1, none⟩ = some (.string p1) := by have := World.ownsRow.cells hown (g := g) rfl 1 (.string p1) rfl; rw [Addr.add_lit] at this; exact this
                  have x2 : V9.cell? ⟨g, 2, none⟩ = some (.string p2) := by have := World.ownsRow.cells hown (g := g) rfl 2 (.string p2) rfl; rw [Addr.add_lit] at this; exact this
                  have gn1 : g ≠ w.heap.size + 1 := by omega
                  have gn2 : w.heap.size + 1 ≠ g := by omega
                  have d0 : V9.cell? ⟨w.heap.size + 1, 0, none⟩ = some (.string ⟨#[]⟩) := HPG.out.cell 0
                  have d1 : V9.cell? ⟨w.heap.size + 1, 1, none⟩ = some (.string ⟨#[]⟩) := HPG.out.cell 1
                  have d2 : V9.cell? ⟨w.heap.size + 1, 2, none⟩ = some (.string ⟨#[]⟩) := HPG.out.cell 2
                  have f0 := HPG.out.free 0
                  have f1 := HPG.out.free 1
                  have f2 := HPG.out.free 2
                  clear hown hgrow hnil hbk h1 h2 h3 h4 hbase c3 c4 c5
                  go_upto_region 14 with fail
                  go_region_held3 (fun w' => w'.cell? ⟨g, 0, none⟩ = V9.cell? ⟨g, 0, none⟩ ∧ w'.cell? ⟨g, 1, none⟩ = V9.cell? ⟨g, 1, none⟩ ∧ w'.cell? ⟨g, 2, none⟩ = V9.cell? ⟨g, 2, none⟩) (go_keep) (fail)
                  have HPF : Hid (PS w #[.string p0, .string p1, .string p2, .string pr, .string bu, .int .i64 0] (((V9.setCell ⟨w.heap.size + 1, 0, none⟩ (.string p0)).setCell ⟨w.heap.size + 1, 1, none⟩ (.string p1)).setCell ⟨w.heap.size + 1, 2, none⟩ (.string p2)).drew) := (((HPG.out.set 0 (.string p0)).set 1 (.string p1)).set 2 (.string p2)).drew
                  clear x0 x1 x2 d0 d1 d2 f0 f1 f2 HPG
                  generalize (((V9.setCell ⟨w.heap.size + 1, 0, none⟩ (.string p0)).setCell ⟨w.heap.size + 1, 1, none⟩ (.string p1)).setCell ⟨w.heap.size + 1, 2, none⟩ (.string p2)).drew = VF at *
                  have k0 : VF.cell? ⟨w.heap.size + 1, 0, none⟩ = some (.string p0) := HPF.out.cell 0
                  have k1 : VF.cell? ⟨w.heap.size + 1, 1, none⟩ = some (.string p1) := HPF.out.cell 1
                  have k2 : VF.cell? ⟨w.heap.size + 1, 2, none⟩ = some (.string p2) := HPF.out.cell 2
                  have k3 : VF.cell? ⟨w.heap.size + 1, 3, none⟩ = some (.string pr) := HPF.out.cell 3
                  have k4 : VF.cell? ⟨w.heap.size + 1, 4, none⟩ = some (.string bu) := HPF.out.cell 4
                  have k5 : VF.cell? ⟨w.heap.size + 1, 5, none⟩ = some (.int .i64 0) := HPF.out.cell 5
                  go_wp2_with (refine wpList_store_row rfl 43 (.tmp 2) (.tmp 89) rfl w.heap.size #[.string p0, .string p1, .string p2, .string pr, .string bu, .int .i64 0] rfl rfl 43 #[.string ⟨#[]⟩, .string ⟨#[]⟩, .string ⟨#[]⟩, .string ⟨#[]⟩, .string ⟨#[]⟩, .int .i64 0] HPF.out.z size23 rfl (ones23v _ _ _ _ _ _) ?_)
                  simp only [Exit.jump]
                  exact bodyPost_ret (results_box rfl _ _ w.heap.size #[.string p0, .string p1, .string p2, .string pr, .string bu, .int .i64 0] rfl (run_loadVar_row _ w.heap.size 43 43 #[.string p0, .string p1, .string p2, .string pr, .string bu, .int .i64 0] (0, 0) _ (setRow_heap _ _ _ _ 43 _ HPF.out.z) Tryz.underlying43 rfl size23)) rfl ⟨by rw [HR.out]; rfl, below_setRow HPF.out.bel (Nat.le_refl _)⟩
            | false =>
              cases an with
              | false =>
                as_aux_lemma =>
                have HRf : Hid (parseR s = none) := by unfold Hid; rw [HR.out]; rfl
                go_wp2_with fail
                refine (HAP.out _).mono ?_
                rintro _ V1 ⟨rfl, hb1⟩
                have HQ1 := hidM (HP4.out.next hb1)
                have HG1 := hidM (box_kept HRW4.out hb1)
                clear hb1 c3 c4 c5
                have c3 : V1.cell? ⟨w.heap.size + 1, 3, none⟩ = some (.string pr) := HQ1.out.cell 3
                have c4 : V1.cell? ⟨w.heap.size + 1, 4, none⟩ = some (.string bu) := HQ1.out.cell 4
                have c5 : V1.cell? ⟨w.heap.size + 1, 5, none⟩ = some (.int .i64 0) := HQ1.out.cell 5
                go_wp2_with fail
                refine (HAN.out _).mono ?_
                rintro _ V2 ⟨rfl, hb2⟩
                have HQ2 := hidM (HQ1.out.next hb2)
                have HG2 := hidM (box_kept HG1.out hb2)
                clear hb2 c3 c4 c5
                have c3 : V2.cell? ⟨w.heap.size + 1, 3, none⟩ = some (.string pr) := HQ2.out.cell 3
                have c4 : V2.cell? ⟨w.heap.size + 1, 4, none⟩ = some (.string bu) := HQ2.out.cell 4
                have c5 : V2.cell? ⟨w.heap.size + 1, 5, none⟩ = some (.int .i64 0) := HQ2.out.cell 5
                go_wp2
                go_step3
                refine (⟨rfl, ?_⟩ : (0 : Nat) = 0 ∧ _)
                go_wp2_with (refine wpList_store_row rfl 43 (.tmp 2) (.tmp 90) rfl w.heap.size #[.string ⟨#[]⟩, .string ⟨#[]⟩, .string ⟨#[]⟩, .string ⟨#[]⟩, .string ⟨#[]⟩, .int .i64 0] rfl rfl 43 #[.string ⟨#[]⟩, .string ⟨#[]⟩, .string ⟨#[]⟩, .string ⟨#[]⟩, .string ⟨#[]⟩, .int .i64 0] HQ2.out.z size23 rfl ones23 ?_)
                rw [Exit.noGoto_ret]
                exact bodyPost_ret (results_box rfl _ _ w.heap.size _ rfl (run_loadVar_row _ w.heap.size 43 43 _ (0, 0) _ (setRow_heap _ _ _ _ 43 _ HQ2.out.z) Tryz.underlying43 rfl size23)) rfl ⟨by rw [HRf.out]; rfl, below_setRow HQ2.out.bel (Nat.le_refl _)⟩
              | true =>
                as_aux_lemma =>
                go_wp2_with fail
                refine (HAP.out _).mono ?_
                rintro _ V1 ⟨rfl, hb1⟩
                have HQ1 := hidM (HP4.out.next hb1)
                have HG1 := hidM (box_kept HRW4.out hb1)
                clear hb1 c3 c4 c5
                have c3 : V1.cell? ⟨w.heap.size + 1, 3, none⟩ = some (.string pr) := HQ1.out.cell 3
                have c4 : V1.cell? ⟨w.heap.size + 1, 4, none⟩ = some (.string bu) := HQ1.out.cell 4
                have c5 : V1.cell? ⟨w.heap.size + 1, 5, none⟩ = some (.int .i64 0) := HQ1.out.cell 5
                go_wp2_with fail
                refine (HAN.out _).mono ?_
                rintro _ V2 ⟨rfl, hb2⟩
                have HQ2 := hidM (HQ1.out.next hb2)
                have HG2 := hidM (box_kept HG1.out hb2)
                clear hb2 c3 c4 c5
                have c3 : V2.cell? ⟨w.heap.size + 1, 3, none⟩ = some (.string pr) := HQ2.out.cell 3
                have c4 : V2.cell? ⟨w.heap.size + 1, 4, none⟩ = some (.string bu) := HQ2.out.cell 4
                have c5 : V2.cell? ⟨w.heap.size + 1, 5, none⟩ = some (.int .i64 0) := HQ2.out.cell 5
                obtain ⟨i0, hi, hz0, hz1, hz2⟩ := info_parts info9
                have HOW : Hid ((V2.alloc (.cells #[.string ⟨#[48]⟩, .string ⟨#[48]⟩] 9)).ownsRow (w.heap.size + 2) 9 1 (.slice (some ⟨G, 0, none⟩) 3 3) 3 [.string p0, .string p1, .string p2]) := by
                  refine ⟨rfl, .inr ⟨G, 3, _, rfl, HBG.out, (_root_.Go.heap_alloc_old _ _ (Array.getElem?_eq_some_iff.1 HG2.out).1).trans HG2.out, Nat.le_refl _, by unfold maxLen; decide, rfl, rfl⟩⟩
                have HBA : Hid (Below V2.heap.size V2 (V2.alloc (.cells #[.string ⟨#[48]⟩, .string ⟨#[48]⟩] 9))) := (Below.refl _ _).alloc (Nat.le_refl _) _
                have HQA := hidM (HQ2.out.next HBA.out)
                have hzs : (w.heap.size + 2 : Nat) ≤ (V2.alloc (.cells #[.string ⟨#[48]⟩, .string ⟨#[48]⟩] 9)).heap.size := by
                  have := (Array.getElem?_eq_some_iff.1 HQA.out.v).1
                  omega
                have HZS := hidM hzs
                clear hzs
                go_wp2_with (at_builtin; refine wpList_append_own _ rfl _ _ 47 rfl (w.heap.size + 2) 9 i0 (.string ByteArray.empty) 1 16 Tryz.underlying47 hi hz0 hz1 hz2 rfl (by decide) _ 3 [.string p0, .string p1, .string p2] rfl HOW.out ⟨V2.heap.size, 0, none⟩ 2 2 [.string ⟨#[48]⟩, .string ⟨#[48]⟩] rfl rfl ?qc2 ?qc3 (by unfold maxLen; decide) (by decide) HZS.out ?_)
                case qc2 =>
                  intro j u hj
                  rw [Addr.add_lit, cell_of_row _ _ _ _ 9 (0, 0) (_root_.Go.heap_alloc_new _ _)]
                  rw [← hj]
                  match j with
                  | 0 => rfl
                  | 1 => rfl
                  | j + 2 => simp at hj
                case qc3 =>
                  intro u hu
                  simp only [List.mem_cons, List.not_mem_nil, or_false] at hu
                  rcases hu with rfl | rfl <;> rfl
                intro v' V9 hown hgrow hnil
                have HPG : Hid (PS w #[.string ⟨#[]⟩, .string ⟨#[]⟩, .string ⟨#[]⟩, .string pr, .string bu, .int .i64 0] V9) := HQA.out.grow (Below.refl_grown HZS.out hgrow (by intro j hj; simp [Value.ownBlock] at hj; have := HBG.out; omega))
                rcases hown.2 with ⟨hx, hn0⟩ | ⟨g, cap, cur, rfl, hbase, hbk, h1, h2, h3, h4⟩
                · exact absurd hn0 (by decide)
                have x0 : V9.cell? ⟨g, 0, none⟩ = some (.string p0) := by have := World.ownsRow.cells hown (g := g) rfl 0 (.string p0) rfl; rw [Addr.add_lit] at this; exact this
                have x1 : V9.cell? ⟨g, 1, none⟩ = some (.string p1) := by have := World.ownsRow.cells hown (g := g) rfl 1 (.string p1) rfl; rw [Addr.add_lit] at this; exact this
                have x2 : V9.cell? ⟨g, 2, none⟩ = some (.string p2) := by have := World.ownsRow.cells hown (g := g) rfl 2 (.string p2) rfl; rw [Addr.add_lit] at this; exact this
                have gn1 : g ≠ w.heap.size + 1 := by omega
                have gn2 : w.heap.size + 1 ≠ g := by omega
                have d0 : V9.cell? ⟨w.heap.size + 1, 0, none⟩ = some (.string ⟨#[]⟩) := HPG.out.cell 0
                have d1 : V9.cell? ⟨w.heap.size + 1, 1, none⟩ = some (.string ⟨#[]⟩) := HPG.out.cell 1
                have d2 : V9.cell? ⟨w.heap.size + 1, 2, none⟩ = some (.string ⟨#[]⟩) := HPG.out.cell 2
                have f0 := HPG.out.free 0
                have f1 := HPG.out.free 1
                have f2 := HPG.out.free 2
                clear hown hgrow hnil hbk h1 h2 h3 h4 hbase c3 c4 c5
                go_upto_region 14 with fail
                go_region_held3 (fun w' => w'.cell? ⟨g, 0, none⟩ = V9.cell? ⟨g, 0, none⟩ ∧ w'.cell? ⟨g, 1, none⟩ = V9.cell? ⟨g, 1, none⟩ ∧ w'.cell? ⟨g, 2, none⟩ = V9.cell? ⟨g, 2, none⟩) (go_keep) (fail)
                have HPF : Hid (PS w #[.string p0, .string p1, .string p2, .string pr, .string bu, .int .i64 0] (((V9.setCell ⟨w.heap.size + 1, 0, none⟩ (.string p0)).setCell ⟨w.heap.size + 1, 1, none⟩ (.string p1)).setCell ⟨w.heap.size + 1, 2, none⟩ (.string p2)).drew) := (((HPG.out.set 0 (.string p0)).set 1 (.string p1)).set 2 (.string p2)).drew
                clear x0 x1 x2 d0 d1 d2 f0 f1 f2 HPG
                generalize (((V9.setCell ⟨w.heap.size + 1, 0, none⟩ (.string p0)).setCell ⟨w.heap.size + 1, 1, none⟩ (.string p1)).setCell ⟨w.heap.size + 1, 2, none⟩ (.string p2)).drew = VF at *
                have k0 : VF.cell? ⟨w.heap.size + 1, 0, none⟩ = some (.string p0) := HPF.out.cell 0
                have k1 : VF.cell? ⟨w.heap.size + 1, 1, none⟩ = some (.string p1) := HPF.out.cell 1
                have k2 : VF.cell? ⟨w.heap.size + 1, 2, none⟩ = some (.string p2) := HPF.out.cell 2
                have k3 : VF.cell? ⟨w.heap.size + 1, 3, none⟩ = some (.string pr) := HPF.out.cell 3
                have k4 : VF.cell? ⟨w.heap.size + 1, 4, none⟩ = some (.string bu) := HPF.out.cell 4
                have k5 : VF.cell? ⟨w.heap.size + 1, 5, none⟩ = some (.int .i64 0) := HPF.out.cell 5
                go_wp2_with (refine wpList_store_row rfl 43 (.tmp 2) (.tmp 89) rfl w.heap.size #[.string p0, .string p1, .string p2, .string pr, .string bu, .int .i64 0] rfl rfl 43 #[.string ⟨#[]⟩, .string ⟨#[]⟩, .string ⟨#[]⟩, .string ⟨#[]⟩, .string ⟨#[]⟩, .int .i64 0] HPF.out.z size23 rfl (ones23v _ _ _ _ _ _) ?_)
                simp only [Exit.jump]
                exact bodyPost_ret (results_box rfl _ _ w.heap.size #[.string p0, .string p1, .string p2, .string pr, .string bu, .int .i64 0] rfl (run_loadVar_row _ w.heap.size 43 43 #[.string p0, .string p1, .string p2, .string pr, .string bu, .int .i64 0] (0, 0) _ (setRow_heap _ _ _ _ 43 _ HPF.out.z) Tryz.underlying43 rfl size23)) rfl ⟨by rw [HR.out]; rfl, below_setRow HPF.out.bel (Nat.le_refl _)⟩
        | false =>
          cases hb with
          | true =>
            cases aw with
            | false =>
              as_aux_lemma =>
              have HRf : Hid (parseR s = none) := by unfold Hid; rw [HR.out]; rfl
              go_wp2_with fail
              refine (HAW.out _).mono ?_
              rintro _ V1 ⟨rfl, hb1⟩
              have HQ1 := hidM (HP4.out.next hb1)
              have HG1 := hidM (box_kept HRW4.out hb1)
              clear hb1 c3 c4 c5
              have c3 : V1.cell? ⟨w.heap.size + 1, 3, none⟩ = some (.string pr) := HQ1.out.cell 3
              have c4 : V1.cell? ⟨w.heap.size + 1, 4, none⟩ = some (.string bu) := HQ1.out.cell 4
              have c5 : V1.cell? ⟨w.heap.size + 1, 5, none⟩ = some (.int .i64 0) := HQ1.out.cell 5
              go_wp2
              go_step3
              refine (⟨rfl, ?_⟩ : (0 : Nat) = 0 ∧ _)
              go_wp2_with (refine wpList_store_row rfl 43 (.tmp 2) (.tmp 90) rfl w.heap.size #[.string ⟨#[]⟩, .string ⟨#[]⟩, .string ⟨#[]⟩, .string ⟨#[]⟩, .string ⟨#[]⟩, .int .i64 0] rfl rfl 43 #[.string ⟨#[]⟩, .string ⟨#[]⟩, .string ⟨#[]⟩, .string ⟨#[]⟩, .string ⟨#[]⟩, .int .i64 0] HQ1.out.z size23 rfl ones23 ?_)
              rw [Exit.noGoto_ret]
              exact bodyPost_ret (results_box rfl _ _ w.heap.size _ rfl (run_loadVar_row _ w.heap.size 43 43 _ (0, 0) _ (setRow_heap _ _ _ _ 43 _ HQ1.out.z) Tryz.underlying43 rfl size23)) rfl ⟨by rw [HRf.out]; rfl, below_setRow HQ1.out.bel (Nat.le_refl _)⟩
            | true =>
              cases an with
              | false =>
                as_aux_lemma =>
                have HRf : Hid (parseR s = none) := by unfold Hid; rw [HR.out]; rfl
                go_wp2_with fail
                refine (HAW.out _).mono ?_
                rintro _ V1 ⟨rfl, hb1⟩
                have HQ1 := hidM (HP4.out.next hb1)
                have HG1 := hidM (box_kept HRW4.out hb1)
                clear hb1 c3 c4 c5
                have c3 : V1.cell? ⟨w.heap.size + 1, 3, none⟩ = some (.string pr) := HQ1.out.cell 3
                have c4 : V1.cell? ⟨w.heap.size + 1, 4, none⟩ = some (.string bu) := HQ1.out.cell 4
                have c5 : V1.cell? ⟨w.heap.size + 1, 5, none⟩ = some (.int .i64 0) := HQ1.out.cell 5
                go_wp2_with fail
                refine (HAN.out _).mono ?_
                rintro _ V2 ⟨rfl, hb2⟩
                have HQ2 := hidM (HQ1.out.next hb2)
                have HG2 := hidM (box_kept HG1.out hb2)
                clear hb2 c3 c4 c5
                have c3 : V2.cell? ⟨w.heap.size + 1, 3, none⟩ = some (.string pr) := HQ2.out.cell 3
                have c4 : V2.cell? ⟨w.heap.size + 1, 4, none⟩ = some (.string bu) := HQ2.out.cell 4
                have c5 : V2.cell? ⟨w.heap.size + 1, 5, none⟩ = some (.int .i64 0) := HQ2.out.cell 5
                go_wp2
                go_step3
                refine (⟨rfl, ?_⟩ : (0 : Nat) = 0 ∧ _)
                go_wp2_with (refine wpList_store_row rfl 43 (.tmp 2) (.tmp 90) rfl w.heap.size #[.string ⟨#[]⟩, .string ⟨#[]⟩, .string ⟨#[]⟩, .string ⟨#[]⟩, .string ⟨#[]⟩, .int .i64 0] rfl rfl 43 #[.string ⟨#[]⟩, .string ⟨#[]⟩, .string ⟨#[]⟩, .string ⟨#[]⟩, .string ⟨#[]⟩, .int .i64 0] HQ2.out.z size23 rfl ones23 ?_)
                rw [Exit.noGoto_ret]
                exact bodyPost_ret (results_box rfl _ _ w.heap.size _ rfl (run_loadVar_row _ w.heap.size 43 43 _ (0, 0) _ (setRow_heap _ _ _ _ 43 _ HQ2.out.z) Tryz.underlying43 rfl size23)) rfl ⟨by rw [HRf.out]; rfl, below_setRow HQ2.out.bel (Nat.le_refl _)⟩
              | true =>
                as_aux_lemma =>
                go_wp2_with fail
                refine (HAW.out _).mono ?_
                rintro _ V1 ⟨rfl, hb1⟩
                have HQ1 := hidM (HP4.out.next hb1)
                have HG1 := hidM (box_kept HRW4.out hb1)
                clear hb1 c3 c4 c5
                have c3 : V1.cell? ⟨w.heap.size + 1, 3, none⟩ = some (.string pr) := HQ1.out.cell 3
                have c4 : V1.cell? ⟨w.heap.size + 1, 4, none⟩ = some (.string bu) := HQ1.out.cell 4
                have c5 : V1.cell? ⟨w.heap.size + 1, 5, none⟩ = some (.int .i64 0) := HQ1.out.cell 5
                go_wp2_with fail
                refine (HAN.out _).mono ?_
                rintro _ V2 ⟨rfl, hb2⟩
                have HQ2 := hidM (HQ1.out.next hb2)
                have HG2 := hidM (box_kept HG1.out hb2)
                clear hb2 c3 c4 c5
                have c3 : V2.cell? ⟨w.heap.size + 1, 3, none⟩ = some (.string pr) := HQ2.out.cell 3
                have c4 : V2.cell? ⟨w.heap.size + 1, 4, none⟩ = some (.string bu) := HQ2.out.cell 4
                have c5 : V2.cell? ⟨w.heap.size + 1, 5, none⟩ = some (.int .i64 0) := HQ2.out.cell 5
                obtain ⟨i0, hi, hz0, hz1, hz2⟩ := info_parts info9
                have HOW : Hid ((V2.alloc (.cells #[.string ⟨#[48]⟩, .string ⟨#[48]⟩] 9)).ownsRow (w.heap.size + 2) 9 1 (.slice (some ⟨G, 0, none⟩) 3 3) 3 [.string p0, .string p1, .string p2]) := by
                  refine ⟨rfl, .inr ⟨G, 3, _, rfl, HBG.out, (_root_.Go.heap_alloc_old _ _ (Array.getElem?_eq_some_iff.1 HG2.out).1).trans HG2.out, Nat.le_refl _, by unfold maxLen; decide, rfl, rfl⟩⟩
                have HBA : Hid (Below V2.heap.size V2 (V2.alloc (.cells #[.string ⟨#[48]⟩, .string ⟨#[48]⟩] 9))) := (Below.refl _ _).alloc (Nat.le_refl _) _
                have HQA := hidM (HQ2.out.next HBA.out)
                have hzs : (w.heap.size + 2 : Nat) ≤ (V2.alloc (.cells #[.string ⟨#[48]⟩, .string ⟨#[48]⟩] 9)).heap.size := by
                  have := (Array.getElem?_eq_some_iff.1 HQA.out.v).1
                  omega
                have HZS := hidM hzs
                clear hzs
                go_wp2_with (at_builtin; refine wpList_append_own _ rfl _ _ 47 rfl (w.heap.size + 2) 9 i0 (.string ByteArray.empty) 1 16 Tryz.underlying47 hi hz0 hz1 hz2 rfl (by decide) _ 3 [.string p0, .string p1, .string p2] rfl HOW.out ⟨V2.heap.size, 0, none⟩ 2 2 [.string ⟨#[48]⟩, .string ⟨#[48]⟩] rfl rfl ?qc2 ?qc3 (by unfold maxLen; decide) (by decide) HZS.out ?_)
                case qc2 =>
                  intro j u hj
                  rw [Addr.add_lit, cell_of_row _ _ _ _ 9 (0, 0) (_root_.Go.heap_alloc_new _ _)]
                  rw [← hj]
                  match j with
                  | 0 => rfl
                  | 1 => rfl
                  | j + 2 => simp at hj
                case qc3 =>
                  intro u hu
                  simp only [List.mem_cons, List.not_mem_nil, or_false] at hu
                  rcases hu with rfl | rfl <;> rfl
                intro v' V9 hown hgrow hnil
                have HPG : Hid (PS w #[.string ⟨#[]⟩, .string ⟨#[]⟩, .string ⟨#[]⟩, .string pr, .string bu, .int .i64 0] V9) := HQA.out.grow (Below.refl_grown HZS.out hgrow (by intro j hj; simp [Value.ownBlock] at hj; have := HBG.out; omega))
                rcases hown.2 with ⟨hx, hn0⟩ | ⟨g, cap, cur, rfl, hbase, hbk, h1, h2, h3, h4⟩
                · exact absurd hn0 (by decide)
                have x0 : V9.cell? ⟨g, 0, none⟩ = some (.string p0) := by have := World.ownsRow.cells hown (g := g) rfl 0 (.string p0) rfl; rw [Addr.add_lit] at this; exact this
                have x1 : V9.cell? ⟨g, 1, none⟩ = some (.string p1) := by have := World.ownsRow.cells hown (g := g) rfl 1 (.string p1) rfl; rw [Addr.add_lit] at this; exact this
                have x2 : V9.cell? ⟨g, 2, none⟩ = some (.string p2) := by have := World.ownsRow.cells hown (g := g) rfl 2 (.string p2) rfl; rw [Addr.add_lit] at this; exact this
                have gn1 : g ≠ w.heap.size + 1 := by omega
                have gn2 : w.heap.size + 1 ≠ g := by omega
                have d0 : V9.cell? ⟨w.heap.size + 1, 0, none⟩ = some (.string ⟨#[]⟩) := HPG.out.cell 0
                have d1 : V9.cell? ⟨w.heap.size + 1, 1, none⟩ = some (.string ⟨#[]⟩) := HPG.out.cell 1
                have d2 : V9.cell? ⟨w.heap.size + 1, 2, none⟩ = some (.string ⟨#[]⟩) := HPG.out.cell 2
                have f0 := HPG.out.free 0
                have f1 := HPG.out.free 1
                have f2 := HPG.out.free 2
                clear hown hgrow hnil hbk h1 h2 h3 h4 hbase c3 c4 c5
                go_upto_region 14 with fail
                go_region_held3 (fun w' => w'.cell? ⟨g, 0, none⟩ = V9.cell? ⟨g, 0, none⟩ ∧ w'.cell? ⟨g, 1, none⟩ = V9.cell? ⟨g, 1, none⟩ ∧ w'.cell? ⟨g, 2, none⟩ = V9.cell? ⟨g, 2, none⟩) (go_keep) (fail)
                have HPF : Hid (PS w #[.string p0, .string p1, .string p2, .string pr, .string bu, .int .i64 0] (((V9.setCell ⟨w.heap.size + 1, 0, none⟩ (.string p0)).setCell ⟨w.heap.size + 1, 1, none⟩ (.string p1)).setCell ⟨w.heap.size + 1, 2, none⟩ (.string p2)).drew) := (((HPG.out.set 0 (.string p0)).set 1 (.string p1)).set 2 (.string p2)).drew
                clear x0 x1 x2 d0 d1 d2 f0 f1 f2 HPG
                generalize (((V9.setCell ⟨w.heap.size + 1, 0, none⟩ (.string p0)).setCell ⟨w.heap.size + 1, 1, none⟩ (.string p1)).setCell ⟨w.heap.size + 1, 2, none⟩ (.string p2)).drew = VF at *
                have k0 : VF.cell? ⟨w.heap.size + 1, 0, none⟩ = some (.string p0) := HPF.out.cell 0
                have k1 : VF.cell? ⟨w.heap.size + 1, 1, none⟩ = some (.string p1) := HPF.out.cell 1
                have k2 : VF.cell? ⟨w.heap.size + 1, 2, none⟩ = some (.string p2) := HPF.out.cell 2
                have k3 : VF.cell? ⟨w.heap.size + 1, 3, none⟩ = some (.string pr) := HPF.out.cell 3
                have k4 : VF.cell? ⟨w.heap.size + 1, 4, none⟩ = some (.string bu) := HPF.out.cell 4
                have k5 : VF.cell? ⟨w.heap.size + 1, 5, none⟩ = some (.int .i64 0) := HPF.out.cell 5
                go_wp2_with (refine wpList_store_row rfl 43 (.tmp 2) (.tmp 89) rfl w.heap.size #[.string p0, .string p1, .string p2, .string pr, .string bu, .int .i64 0] rfl rfl 43 #[.string ⟨#[]⟩, .string ⟨#[]⟩, .string ⟨#[]⟩, .string ⟨#[]⟩, .string ⟨#[]⟩, .int .i64 0] HPF.out.z size23 rfl (ones23v _ _ _ _ _ _) ?_)
                simp only [Exit.jump]
                exact bodyPost_ret (results_box rfl _ _ w.heap.size #[.string p0, .string p1, .string p2, .string pr, .string bu, .int .i64 0] rfl (run_loadVar_row _ w.heap.size 43 43 #[.string p0, .string p1, .string p2, .string pr, .string bu, .int .i64 0] (0, 0) _ (setRow_heap _ _ _ _ 43 _ HPF.out.z) Tryz.underlying43 rfl size23)) rfl ⟨by rw [HR.out]; rfl, below_setRow HPF.out.bel (Nat.le_refl _)⟩
          | false =>
            cases an with
            | false =>
              as_aux_lemma =>
              have HRf : Hid (parseR s = none) := by unfold Hid; rw [HR.out]; rfl
              go_wp2_with fail
              refine (HAN.out _).mono ?_
              rintro _ V1 ⟨rfl, hb1⟩
              have HQ1 := hidM (HP4.out.next hb1)
              have HG1 := hidM (box_kept HRW4.out hb1)
              clear hb1 c3 c4 c5
              have c3 : V1.cell? ⟨w.heap.size + 1, 3, none⟩ = some (.string pr) := HQ1.out.cell 3
              have c4 : V1.cell? ⟨w.heap.size + 1, 4, none⟩ = some (.string bu) := HQ1.out.cell 4
              have c5 : V1.cell? ⟨w.heap.size + 1, 5, none⟩ = some (.int .i64 0) := HQ1.out.cell 5
              go_wp2
              go_step3
              refine (⟨rfl, ?_⟩ : (0 : Nat) = 0 ∧ _)
              go_wp2_with (refine wpList_store_row rfl 43 (.tmp 2) (.tmp 90) rfl w.heap.size #[.string ⟨#[]⟩, .string ⟨#[]⟩, .string ⟨#[]⟩, .string ⟨#[]⟩, .string ⟨#[]⟩, .int .i64 0] rfl rfl 43 #[.string ⟨#[]⟩, .string ⟨#[]⟩, .string ⟨#[]⟩, .string ⟨#[]⟩, .string ⟨#[]⟩, .int .i64 0] HQ1.out.z size23 rfl ones23 ?_)
              rw [Exit.noGoto_ret]
              exact bodyPost_ret (results_box rfl _ _ w.heap.size _ rfl (run_loadVar_row _ w.heap.size 43 43 _ (0, 0) _ (setRow_heap _ _ _ _ 43 _ HQ1.out.z) Tryz.underlying43 rfl size23)) rfl ⟨by rw [HRf.out]; rfl, below_setRow HQ1.out.bel (Nat.le_refl _)⟩
            | true =>
              as_aux_lemma =>
              go_wp2_with fail
              refine (HAN.out _).mono ?_
              rintro _ V1 ⟨rfl, hb1⟩
              have HQ1 := hidM (HP4.out.next hb1)
              have HG1 := hidM (box_kept HRW4.out hb1)
              clear hb1 c3 c4 c5
              have c3 : V1.cell? ⟨w.heap.size + 1, 3, none⟩ = some (.string pr) := HQ1.out.cell 3
              have c4 : V1.cell? ⟨w.heap.size + 1, 4, none⟩ = some (.string bu) := HQ1.out.cell 4
              have c5 : V1.cell? ⟨w.heap.size + 1, 5, none⟩ = some (.int .i64 0) := HQ1.out.cell 5
              obtain ⟨i0, hi, hz0, hz1, hz2⟩ := info_parts info9
              have HOW : Hid ((V1.alloc (.cells #[.string ⟨#[48]⟩, .string ⟨#[48]⟩] 9)).ownsRow (w.heap.size + 2) 9 1 (.slice (some ⟨G, 0, none⟩) 3 3) 3 [.string p0, .string p1, .string p2]) := by
                refine ⟨rfl, .inr ⟨G, 3, _, rfl, HBG.out, (_root_.Go.heap_alloc_old _ _ (Array.getElem?_eq_some_iff.1 HG1.out).1).trans HG1.out, Nat.le_refl _, by unfold maxLen; decide, rfl, rfl⟩⟩
              have HBA : Hid (Below V1.heap.size V1 (V1.alloc (.cells #[.string ⟨#[48]⟩, .string ⟨#[48]⟩] 9))) := (Below.refl _ _).alloc (Nat.le_refl _) _
              have HQA := hidM (HQ1.out.next HBA.out)
              have hzs : (w.heap.size + 2 : Nat) ≤ (V1.alloc (.cells #[.string ⟨#[48]⟩, .string ⟨#[48]⟩] 9)).heap.size := by
                have := (Array.getElem?_eq_some_iff.1 HQA.out.v).1
                omega
              have HZS := hidM hzs
              clear hzs
              go_wp2_with (at_builtin; refine wpList_append_own _ rfl _ _ 47 rfl (w.heap.size + 2) 9 i0 (.string ByteArray.empty) 1 16 Tryz.underlying47 hi hz0 hz1 hz2 rfl (by decide) _ 3 [.string p0, .string p1, .string p2] rfl HOW.out ⟨V1.heap.size, 0, none⟩ 2 2 [.string ⟨#[48]⟩, .string ⟨#[48]⟩] rfl rfl ?qc2 ?qc3 (by unfold maxLen; decide) (by decide) HZS.out ?_)
              case qc2 =>
                intro j u hj
                rw [Addr.add_lit, cell_of_row _ _ _ _ 9 (0, 0) (_root_.Go.heap_alloc_new _ _)]
                rw [← hj]
                match j with
                | 0 => rfl
                | 1 => rfl
                | j + 2 => simp at hj
              case qc3 =>
                intro u hu
                simp only [List.mem_cons, List.not_mem_nil, or_false] at hu
                rcases hu with rfl | rfl <;> rfl
              intro v' V9 hown hgrow hnil
              have HPG : Hid (PS w #[.string ⟨#[]⟩, .string ⟨#[]⟩, .string ⟨#[]⟩, .string pr, .string bu, .int .i64 0] V9) := HQA.out.grow (Below.refl_grown HZS.out hgrow (by intro j hj; simp [Value.ownBlock] at hj; have := HBG.out; omega))
              rcases hown.2 with ⟨hx, hn0⟩ | ⟨g, cap, cur, rfl, hbase, hbk, h1, h2, h3, h4⟩
              · exact absurd hn0 (by decide)
              have x0 : V9.cell? ⟨g, 0, none⟩ = some (.string p0) := by have := World.ownsRow.cells hown (g := g) rfl 0 (.string p0) rfl; rw [Addr.add_lit] at this; exact this
              have x1 : V9.cell? ⟨g, 1, none⟩ = some (.string p1) := by have := World.ownsRow.cells hown (g := g) rfl 1 (.string p1) rfl; rw [Addr.add_lit] at this; exact this
              have x2 : V9.cell? ⟨g, 2, none⟩ = some (.string p2) := by have := World.ownsRow.cells hown (g := g) rfl 2 (.string p2) rfl; rw [Addr.add_lit] at this; exact this
              have gn1 : g ≠ w.heap.size + 1 := by omega
              have gn2 : w.heap.size + 1 ≠ g := by omega
              have d0 : V9.cell? ⟨w.heap.size + 1, 0, none⟩ = some (.string ⟨#[]⟩) := HPG.out.cell 0
              have d1 : V9.cell? ⟨w.heap.size + 1, 1, none⟩ = some (.string ⟨#[]⟩) := HPG.out.cell 1
              have d2 : V9.cell? ⟨w.heap.size + 1, 2, none⟩ = some (.string ⟨#[]⟩) := HPG.out.cell 2
              have f0 := HPG.out.free 0
              have f1 := HPG.out.free 1
              have f2 := HPG.out.free 2
              clear hown hgrow hnil hbk h1 h2 h3 h4 hbase c3 c4 c5
              go_upto_region 14 with fail
              go_region_held3 (fun w' => w'.cell? ⟨g, 0, none⟩ = V9.cell? ⟨g, 0, none⟩ ∧ w'.cell? ⟨g, 1, none⟩ = V9.cell? ⟨g, 1, none⟩ ∧ w'.cell? ⟨g, 2, none⟩ = V9.cell? ⟨g, 2, none⟩) (go_keep) (fail)
              have HPF : Hid (PS w #[.string p0, .string p1, .string p2, .string pr, .string bu, .int .i64 0] (((V9.setCell ⟨w.heap.size + 1, 0, none⟩ (.string p0)).setCell ⟨w.heap.size + 1, 1, none⟩ (.string p1)).setCell ⟨w.heap.size + 1, 2, none⟩ (.string p2)).drew) := (((HPG.out.set 0 (.string p0)).set 1 (.string p1)).set 2 (.string p2)).drew
              clear x0 x1 x2 d0 d1 d2 f0 f1 f2 HPG
              generalize (((V9.setCell ⟨w.heap.size + 1, 0, none⟩ (.string p0)).setCell ⟨w.heap.size + 1, 1, none⟩ (.string p1)).setCell ⟨w.heap.size + 1, 2, none⟩ (.string p2)).drew = VF at *
              have k0 : VF.cell? ⟨w.heap.size + 1, 0, none⟩ = some (.string p0) := HPF.out.cell 0
              have k1 : VF.cell? ⟨w.heap.size + 1, 1, none⟩ = some (.string p1) := HPF.out.cell 1
              have k2 : VF.cell? ⟨w.heap.size + 1, 2, none⟩ = some (.string p2) := HPF.out.cell 2
              have k3 : VF.cell? ⟨w.heap.size + 1, 3, none⟩ = some (.string pr) := HPF.out.cell 3
              have k4 : VF.cell? ⟨w.heap.size + 1, 4, none⟩ = some (.string bu) := HPF.out.cell 4
              have k5 : VF.cell? ⟨w.heap.size + 1, 5, none⟩ = some (.int .i64 0) := HPF.out.cell 5
              go_wp2_with (refine wpList_store_row rfl 43 (.tmp 2) (.tmp 89) rfl w.heap.size #[.string p0, .string p1, .string p2, .string pr, .string bu, .int .i64 0] rfl rfl 43 #[.string ⟨#[]⟩, .string ⟨#[]⟩, .string ⟨#[]⟩, .string ⟨#[]⟩, .string ⟨#[]⟩, .int .i64 0] HPF.out.z size23 rfl (ones23v _ _ _ _ _ _) ?_)
              simp only [Exit.jump]
              exact bodyPost_ret (results_box rfl _ _ w.heap.size #[.string p0, .string p1, .string p2, .string pr, .string bu, .int .i64 0] rfl (run_loadVar_row _ w.heap.size 43 43 #[.string p0, .string p1, .string p2, .string pr, .string bu, .int .i64 0] (0, 0) _ (setRow_heap _ _ _ _ 43 _ HPF.out.z) Tryz.underlying43 rfl size23)) rfl ⟨by rw [HR.out]; rfl, below_setRow HPF.out.bel (Nat.le_refl _)⟩
end Go.Proofs.YtmhjdahmmdfbcaaGreatDoor
