/-
  Taken over from another program: InfF.
  Taken over from another program: InfG.
-/
import Derived.Test.YtlmeoahcpmikiaaGreatDoorJInfX
import Derived.Laws.BitsAllLaws
namespace Go.Proofs.YtlmeoahcpmikiaaGreatDoor
open Go.RowKit
def plK (k : Nat) : Nat := placeOf.getD k 0
theorem plK_all : ∀ k : Fin 19, plK k.val < 19 ∧ placeOf.idxOf (plK k.val) = k.val := by decide
theorem plK_of {s k : Nat} (hk : k < 19) (h : placeOf.idxOf s = k) : s = plK k := by
  have hl : placeOf.idxOf s < placeOf.length := by rw [h]; exact hk
  have h1 := List.getElem_idxOf hl
  unfold plK
  rw [List.getD_eq_getElem?_getD, ← h, List.getElem?_eq_getElem hl, h1]
  rfl
def lenK (X : List UInt8) (t k s : Nat) : Nat := if s < 19 ∧ placeOf.idxOf s < k then bitsN X (t + 3 * placeOf.idxOf s) 3 else 0
def hK (X : List UInt8) (t k : Nat) : Nat → Value := fun s => .int .i64 (lenK X t k s : Int)
theorem lenK_le (X : List UInt8) (t k s : Nat) : lenK X t k s ≤ 7 := by
  unfold lenK
  split
  · have := bitsN_lt X (t + 3 * placeOf.idxOf s) 3; omega
  · omega
theorem hK_zero (X : List UInt8) (t : Nat) : hK X t 0 = fun _ => .int .i64 0 := by
  funext s
  unfold hK lenK
  rw [if_neg (fun h => by omega)]
  rfl
theorem hK_next (X : List UInt8) (t k : Nat) (hk : k < 19) : upd (hK X t k) (plK k) (.int .i64 (bitsN X (t + 3 * k) 3 : Int)) = hK X t (k + 1) := by
  have hp : plK k < 19 ∧ placeOf.idxOf (plK k) = k := plK_all ⟨k, hk⟩
  funext s
  by_cases hs : s = plK k
  · subst hs
    rw [upd_same]
    unfold hK lenK
    rw [hp.2, if_pos ⟨hp.1, by omega⟩]
  · rw [upd_other _ _ _ _ hs]
    unfold hK lenK
    have hne : placeOf.idxOf s ≠ k := fun h => hs (plK_of hk h)
    by_cases h : s < 19 ∧ placeOf.idxOf s < k
    · rw [if_pos h, if_pos ⟨h.1, by omega⟩]
    · rw [if_neg h, if_neg (fun g => h ⟨g.1, by omega⟩)]
theorem first_ints {w : World} {g : Nat} {X : List UInt8} {t k : Nat} (h : ABox w g 394 19 (hK X t k)) : IntsAt w (some ⟨g, 0, none⟩) 19 .i64 (fun i => ((firstCd X t k).ln i : Int)) := by
  refine ⟨by unfold maxLen; omega, fun i => ?_, .inr ⟨g, 0, rfl, fun i hi => ?_⟩⟩
  · have h7 := lenK_le X t k i
    show (Lit.int .i64 (lenK X t k i : Int)).wf = true
    exact WalkArith.wf_i64 ⟨by omega, by omega⟩
  · rw [Nat.zero_add]
    exact h.cell i hi
/-- what readFirst answers -/
def FirstPost (B : Nat) (X : ByteArray) (t nc : Nat) (e : Ending) (w' : World) : Prop :=
  (total X.data.toList < t + 3 * nc ∧ e = .returned (.tuple #[.pointer none, .int .i64 6])) ∨
  (t + 3 * nc ≤ total X.data.toList ∧ ¬ Fit (firstCd X.data.toList t nc).ln 19 ∧ e = .returned (.tuple #[.pointer none, .int .i64 3])) ∨
  (t + 3 * nc ≤ total X.data.toList ∧ Fit (firstCd X.data.toList t nc).ln 19 ∧ ∃ tb, e = .returned (.tuple #[.pointer (some ⟨tb, 0, none⟩), .int .i64 0]) ∧ TabQ w' B (.pointer (some ⟨tb, 0, none⟩)) (firstCd X.data.toList t nc) ∧ RBox w' B X (t + 3 * nc))
theorem ButR.below {B : Nat} {w w' w'' : World} (h : ButR B w w') (k : Below w'.heap.size w' w'') : ButR B w w'' :=
  ⟨k.os.trans h.os, k.tape.trans h.tape, k.output.trans h.output, Nat.le_trans h.size k.size, fun i h1 h2 => (k.block i (Nat.lt_of_lt_of_le h1 h.size)).trans (h.block i h1 h2)⟩
theorem ButR.setNew {B g o : Nat} {w w' : World} (h : ButR B w w') (hg : w.heap.size ≤ g) (u : Value) : ButR B w (w'.setCell ⟨g, o, none⟩ u) :=
  ⟨h.os, h.tape, h.output, by simpa using h.size, fun i h1 h2 => (Below.heap_setCell w' ⟨g, o, none⟩ u i (by show i ≠ g; omega)).trans (h.block i h1 h2)⟩
set_option maxHeartbeats 4000000 in
set_option maxRecDepth 100000 in
theorem readFirst_any (B : Nat) (X : ByteArray) (t nc : Nat) (w : World) (h0 : w.cell? ⟨B + 1, 0, none⟩ = some (.pointer (some ⟨B, 0, none⟩))) (hB : B + 1 < w.heap.size) (hBp : 13 < B) (hr : RBox w B X t) (hX : X.size ≤ 1000000) (ht : t ≤ 8 * X.size) (hnc : nc ≤ 19)
    (hG : ∀ k, k < 19 → w.cell? ⟨13, k, none⟩ = some (.int .i64 (plK k : Int))) :
    Calls Tryz.prog 304 #[.pointer (some ⟨B + 1, 0, none⟩), .int .i64 (nc : Int)] w fun e w' => FirstPost B X t nc e w' ∧ ButR B w w' := by
  have HRD := hidM hr
  have HC := hidM h0
  have HG := hidM hG
  have HBX : Hid (ABox (w.alloc (.cells #[.int .i64 0, .int .i64 0, .int .i64 0, .int .i64 0, .int .i64 0, .int .i64 0, .int .i64 0, .int .i64 0, .int .i64 0, .int .i64 0, .int .i64 0, .int .i64 0, .int .i64 0, .int .i64 0, .int .i64 0, .int .i64 0, .int .i64 0, .int .i64 0, .int .i64 0] 394)) w.heap.size 394 19 (hK X.data.toList t 0)) := by
    unfold Hid ABox
    rw [hK_zero, heap_alloc_new]
    rfl
  clear hr h0 hG
  go_enter Tryz.func304, Tryz.ntmps304
  go_wp2
  go_loopw [13] (fun iv wr => ∃ (k : Nat), k ≤ nc ∧ iv = .int .i64 k ∧ t + 3 * k ≤ 8 * X.size ∧ RBox wr B X (t + 3 * k) ∧ ABox wr w.heap.size 394 19 (hK X.data.toList t k) ∧ ButR B w wr) (fun i _ => nc - (intOf i).toNat)
  case atStart =>
    refine ⟨0, Nat.zero_le _, rfl, by omega, ?_, HBX.out, ?_⟩
    · exact HRD.out.same (Below.heap_alloc w _ B (by omega))
    · exact ⟨rfl, rfl, rfl, by simp, fun k h1 _ => Below.heap_alloc w _ k h1⟩
  case round =>
    obtain ⟨k, hk, rfl, htk, hrd, hab, hbut⟩ := hrel
    have HR := hidM hrd
    have HA := hidM hab
    have HBU := hidM hbut
    clear hrd hab hbut HBX HRD
    by_cases hlt : k < nc
    · have kk : (k : Int) < (nc : Int) := by omega
      have d0 : wr.cell? ⟨B + 1, 0, none⟩ = some (.pointer (some ⟨B, 0, none⟩)) := (World.cell?_of_block (w := w) (a := ⟨B + 1, 0, none⟩) (HBU.out.block (B + 1) hB (by omega))).trans HC.out
      have HSB := hidM (sbits_any (B + 1) B X (t + 3 * k) (8 * X.size - (t + 3 * k)) 3 wr d0 HR.out (by omega) (by omega) (by decide))
      go_wp2_with fail
      refine HSB.out.mono ?_
      rintro _ w1 ⟨hp, ho1⟩
      have HA1 : Hid (ABox w1 w.heap.size 394 19 (hK X.data.toList t k)) := HA.out.same (ho1.block _ (by omega))
      have HB1 : Hid (ButR B w w1) := HBU.out.only ho1
      clear ho1 HSB HA HBU d0
      rcases hp with ⟨x, h1, h2, rfl, h3⟩ | ⟨h1, rfl, h3⟩
      · have hxe : x = bitsN X.data.toList (t + 3 * k) 3 ∧ t + 3 * k + 3 ≤ 8 * X.size := by
          unfold num at h1
          rw [total_size] at h1
          split at h1
          · rename_i hh
            simp only [Option.some.injEq] at h1
            exact ⟨h1.symm, hh⟩
          · cases h1
        have hpl : plK k < 19 ∧ placeOf.idxOf (plK k) = k := plK_all ⟨k, by omega⟩
        have g1 : w1.cell? ⟨13, k, none⟩ = some (.int .i64 (plK k : Int)) := (World.cell?_of_block (w := w) (a := ⟨13, k, none⟩) (HB1.out.block 13 (by omega) (by omega))).trans (HG.out k (by omega))
        have g2 := HA1.out.cell (plK k) hpl.1
        have g3 := HA1.out.fz (plK k)
        unfold hK at g2
        have HA2 := hidM (HA1.out.set (plK k) (.int .i64 (x : Int)))
        have HNX := hidM (hK_next X.data.toList t k (by omega))
        rw [hxe.1] at HA2
        rw [HNX.out] at HA2
        rw [← hxe.1] at HA2
        have ht3 := hxe.2
        have e1 : (plK k : Int) < 19 := by omega
        have e2 : (k : Int) < 19 := by omega
        have HR3 := hidM h3
        clear h1 h2 h3 hxe hpl
        generalize plK k = q at *
        generalize lenK X.data.toList t k q = z at *
        go_wp2
        go_roundw
        case rel => exact ⟨k + 1, by omega, by go_num, by omega, by rw [show t + 3 * (k + 1) = t + 3 * k + 3 by omega]; exact HR3.out.same (Below.heap_setCell w1 ⟨w.heap.size, q, none⟩ _ B (by show B ≠ w.heap.size; omega)), HA2.out, HB1.out.setNew (Nat.le_refl _) _⟩
        case measure => (show nc - ((k : Int) + 1).toNat < nc - ((k : Int)).toNat); omega
      · have hshort : total X.data.toList < t + 3 * nc := by
          unfold num at h1
          rw [total_size] at h1
          split at h1
          · cases h1
          · rw [total_size]; omega
        have HSH := hidM hshort
        clear h1 h3 hshort
        go_wp2
        go_ret2
        exact ⟨.inl ⟨HSH.out, rfl⟩, HB1.out⟩
    · obtain rfl : k = nc := by omega
      have HN := hidM (new_tab (firstCd X.data.toList t k) (some ⟨w.heap.size, 0, none⟩) 19 _ wr (first_ints HA.out) (by show (19 : Nat) ≤ 320; decide) (fun i _ => ⟨rfl, Nat.le_trans (lenK_le X.data.toList t k i) (by decide)⟩))
      have HTT : Hid (t + 3 * k ≤ total X.data.toList) := by unfold Hid; rw [total_size]; exact htk
      have hwr := HBU.out.size
      go_wp2_with fail
      refine HN.out.mono ?_
      rintro _ w2 ⟨hq, hb2⟩
      have HB2 := hidM (HBU.out.below hb2)
      have HR2 := hidM (HR.out.below hb2)
      clear hb2 HN
      rcases hq with ⟨hno, rfl⟩ | ⟨hfit, tb, rfl, htb⟩
      · have HNO := hidM hno
        clear hno
        go_wp2
        go_ret2
        exact ⟨.inr (.inl ⟨HTT.out, HNO.out, rfl⟩), HB2.out⟩
      · have HF := hidM hfit
        have HTB : Hid (TabQ w2 B (.pointer (some ⟨tb, 0, none⟩)) (firstCd X.data.toList t k)) := tabQ_of htb (by omega)
        clear hfit htb
        go_wp2
        go_ret2
        exact ⟨.inr (.inr ⟨HTT.out, HF.out, tb, rfl, HTB.out, HR2.out⟩), HB2.out⟩
end Go.Proofs.YtlmeoahcpmikiaaGreatDoor
namespace Go.Proofs.YtlmeoahcpmikiaaGreatDoor
open Go.RowKit
/-- what readCodes answers -/
def DynPost (B : Nat) (X : ByteArray) (t most : Nat) (last : Bool) (v : Value) (o : List UInt8) (p3 p4 : Value) (w : World) (e : Ending) (w' : World) : Prop :=
  (∃ n : Nat, n ≠ 0 ∧ Dyn X.data.toList t (.inl n) ∧ e = .returned (.int .i64 (n : Int)) ∧ Below B w w') ∨
  (∃ cl cd t', Dyn X.data.toList t (.inr (cl, cd, t')) ∧ t' ≤ 8 * X.size ∧ e = .returned (.int .i64 0) ∧ ∃ q1 q2, StS w' B X t' most last v o q1 q2 p3 p4 ∧ TabQ w' B q1 cl ∧ TabQ w' B q2 cd ∧ Kept B w w')
theorem StS.but {w w' : World} {B : Nat} {X : ByteArray} {t most : Nat} {last : Bool} {v : Value} {o : List UInt8} {p1 p2 p3 p4 : Value} (h : StS w B X t most last v o p1 p2 p3 p4) (hb : ButR B w w') {t' : Nat} (hr : RBox w' B X t') : StS w' B X t' most last v o p1 p2 p3 p4 :=
  ⟨hr, h.box.same (hb.block _ h.box.lt (by omega)), h.own.same fun g hg => hb.block g (h.own.ge hg).2 (by have := (h.own.ge hg).1; omega)⟩
theorem and31 (v : Nat) : bits .and .i64 (v : Int) 31 = ((v % 32 : Nat) : Int) := by
  have key : (BitVec.ofInt 64 (v : Int) &&& BitVec.ofInt 64 31).toNat = v % 32 := by
    rw [BitVec.toNat_and, BitVec.toNat_ofInt, show (BitVec.ofInt 64 31).toNat = 2 ^ 5 - 1 by decide, Nat.and_two_pow_sub_one_eq_mod]
    omega
  show IntKind.i64.wrap ((BitVec.ofInt 64 (v : Int) &&& BitVec.ofInt 64 31).toNat : Nat) = ((v % 32 : Nat) : Int)
  rw [key, IntKind.wrap_i64]
  omega
theorem ints_take {w : World} {B : Nat} {v : Value} {l : List Nat} {nl : Nat} (h : OwnN w B v l) (h15 : ∀ x ∈ l, x ≤ 15) (hl : nl < l.length) (h0 : l.length ≤ 400) : ∃ g cap, v = .slice (some ⟨g, 0, none⟩) l.length cap ∧ l.length ≤ cap ∧ B ≤ g ∧
    IntsAt w (some ⟨g, 0, none⟩) nl .i64 (fun i => ((cdL (l.take nl)).ln i : Int)) ∧ IntsAt w (some ⟨g, nl, none⟩) (l.length - nl) .i64 (fun i => ((cdL (l.drop nl)).ln i : Int)) := by
  have le15 : ∀ (m : List Nat) i, (∀ x ∈ m, x ≤ 15) → (cdL m).ln i ≤ 15 := fun m i hm => by
    unfold cdL
    simp only [List.getD_eq_getElem?_getD]
    cases hg : m[i]? with
    | none => simp
    | some x => exact hm x (List.mem_of_getElem? hg)
  obtain ⟨a, c, hv, hsh⟩ := h.shape
  obtain ⟨g, rfl, hg, _, hcell⟩ := hsh (by omega)
  have hcap : l.length ≤ c := by
    rcases h.2 with ⟨h1, h2⟩ | ⟨g', cap', cur, h1, _,_, h2, _⟩
    · omega
    · rw [hv] at h1
      simp only [Value.slice.injEq] at h1
      omega
  refine ⟨g, c, hv, hcap, hg, ⟨by unfold maxLen; omega, fun i => ?_, .inr ⟨g, 0, rfl, fun i hi => ?_⟩⟩, ⟨by unfold maxLen; omega, fun i => ?_, .inr ⟨g, nl, rfl, fun i hi => ?_⟩⟩⟩
  · have := le15 (l.take nl) i (fun x hx => h15 x (List.mem_of_mem_take hx))
    show (Lit.int .i64 ((cdL (l.take nl)).ln i : Int)).wf = true
    exact WalkArith.wf_i64 ⟨by omega, by omega⟩
  · rw [Nat.zero_add, hcell i (by omega)]
    unfold cdL
    simp only [List.getD_eq_getElem?_getD, List.getElem?_take, if_pos hi, List.getElem?_eq_getElem (show i < l.length by omega), Option.getD_some]
  · have := le15 (l.drop nl) i (fun x hx => h15 x (List.mem_of_mem_drop hx))
    show (Lit.int .i64 ((cdL (l.drop nl)).ln i : Int)).wf = true
    exact WalkArith.wf_i64 ⟨by omega, by omega⟩
  · rw [hcell (nl + i) (by omega)]
    unfold cdL
    simp only [List.getD_eq_getElem?_getD, List.getElem?_drop, List.getElem?_eq_getElem (show nl + i < l.length by omega), Option.getD_some]
theorem lens_total {c : Cd} {X : List UInt8} {n t : Nat} {l : List Nat} {r : Nat ⊕ (Nat × List Nat)} (h : Lens c X n t l r) : ∀ t' l', r = .inr (t', l') → t ≤ total X → t' ≤ total X := by
  induction h with
  | done t l h => intro t' l' e h1; simp at e; omega
  | stop t l e h hs => intro t' l' e; simp at e
  | next t l t1 l1 r h2 hs hr ih =>
    intro t' l' e h3
    refine ih t' l' e ?_
    cases hs with
    | plain s _ hs h16 => exact hs.lt.2.2
    | good s t2 x hs h16 hl hx hm => unfold num at hx; split at hx; assumption; cases hx
theorem use_drew (B : Nat) (X : ByteArray) (t most : Nat) (last : Bool) (v : Value) (o : List UInt8) (p1 p2 p3 p4 : Value) (cl cd : Cd) (a1 a2 : Option Addr) (w : World) (hS : StS w B X t most last v o p1 p2 p3 p4)
    (hf1 : IntsAt w a1 cl.L .i64 (fun i => (cl.ln i : Int))) (hf2 : IntsAt w a2 cd.L .i64 (fun i => (cd.ln i : Int))) (h257 : 257 ≤ cl.L) (hl1 : cl.L ≤ 320) (hl2 : cd.L ≤ 320) (h15 : ∀ i, cl.ln i ≤ 15) (h15' : ∀ i, cd.ln i ≤ 15) (hne : ∀ bb oo, a2 = some ⟨bb, oo, none⟩ → bb ≠ B + 1) (c1 c2 : Nat) (V : World) (hV : Hid (DrewOf w V)) :
    Calls Tryz.prog 306 #[.pointer (some ⟨B + 1, 0, none⟩), .slice a1 cl.L c1, .slice a2 cd.L c2] V fun e w' => ∃ n : Nat, e = .returned (.int .i64 (n : Int)) ∧ Hid (UsePost B X t most last v o p3 p4 cl cd w (.returned (.int .i64 (n : Int))) w') := by
  obtain ⟨m, rfl⟩ := hV
  have hk : Kept B w (w.drewN m) := ((Only.refl B w).drewN m).kept
  refine (useLengths_any B X t most last v o p1 p2 p3 p4 cl cd a1 a2 c1 c2 (w.drewN m) ⟨hS.rd, hS.box, hS.own⟩ hf1 hf2 h257 hl1 hl2 h15 h15' hne).mono ?_
  rintro e w' hU
  rcases hU with ⟨h1, rfl, h2⟩ | ⟨h1, rfl, q1, q2, h2, h3, h4, h5⟩
  · exact ⟨3, rfl, .inl ⟨h1, rfl, hk.below.trans h2⟩⟩
  · exact ⟨0, rfl, .inr ⟨h1, rfl, q1, q2, h2, h3, h4, hk.trans h5⟩⟩
set_option maxHeartbeats 4000000 in
set_option maxRecDepth 100000 in
theorem readCodes_any (B : Nat) (X : ByteArray) (t most : Nat) (last : Bool) (v : Value) (o : List UInt8) (p1 p2 p3 p4 : Value) (w : World) (hS : StS w B X t most last v o p1 p2 p3 p4) (hBp : 13 < B) (hX : X.size ≤ 1000000) (ht : t ≤ 8 * X.size)
    (hG : ∀ k, k < 19 → w.cell? ⟨13, k, none⟩ = some (.int .i64 (plK k : Int))) :
    Calls Tryz.prog 286 #[.pointer (some ⟨B + 1, 0, none⟩)] w fun e w' => DynPost B X t most last v o p3 p4 w e w' := by
  have HS := hidM hS
  have HG := hidM hG
  have HSB := hidM (sbits_any (B + 1) B X t (8 * X.size - t) 14 w hS.box.c0 hS.rd (by omega) (by omega) (by decide))
  have hBs := hS.box.lt
  clear hS hG
  go_enter Tryz.func286, Tryz.ntmps286
  go_wp2_with fail
  refine HSB.out.mono ?_
  rintro _ w1 ⟨hp, ho1⟩
  have HO1 := hidM ho1
  clear ho1
  rcases hp with ⟨x, h1, h2, rfl, h3⟩ | ⟨h1, rfl, h3⟩
  rotate_left
  · have HR : Hid (Dyn X.data.toList t (.inl 6)) := .counts6 h1
    clear h1 h3
    go_wp2
    go_ret
    exact .inl ⟨6, by decide, HR.out, rfl, HO1.out.kept.below⟩
  have hx : x < 16384 := h2
  have HX := hidM h1
  have HS1 := hidM (HS.out.read h3 HO1.out)
  have ht14 : t + 14 ≤ 8 * X.size := by
    have h := h1
    unfold num at h
    rw [total_size] at h
    split at h
    · assumption
    · cases h
  have HK1 : Hid (Kept B w w1) := HO1.out.kept
  have HG1 : Hid (∀ k, k < 19 → w1.cell? ⟨13, k, none⟩ = some (.int .i64 (plK k : Int))) := fun k hk => (World.cell?_of_block (w := w) (a := ⟨13, k, none⟩) (HO1.out.block 13 (by omega))).trans (HG.out k hk)
  clear h1 h2 h3 HSB HS HG HO1
  obtain ⟨y, hy⟩ : ∃ y, y = x / 32 := ⟨_, rfl⟩
  obtain ⟨m1, hm1⟩ : ∃ m, m = x % 32 := ⟨_, rfl⟩
  obtain ⟨m2, hm2⟩ : ∃ m, m = y % 32 := ⟨_, rfl⟩
  obtain ⟨m3, hm3⟩ : ∃ m, m = x / 1024 := ⟨_, rfl⟩
  have e1 : bits .and .i64 (x : Int) 31 = (m1 : Int) := by rw [hm1]; exact and31 x
  have e2 : (x : Int) / 32 = (y : Int) := by omega
  have e3 : bits .and .i64 (y : Int) 31 = (m2 : Int) := by rw [hm2]; exact and31 y
  have e4 : (x : Int) / 1024 = (m3 : Int) := by omega
  have q1 : m1 < 32 := by omega
  have q2 : m2 < 32 := by omega
  have q3 : m3 ≤ 15 := by omega
  have HM1 : Hid (x % 32 = m1) := hm1.symm
  have HM2 : Hid (x / 32 % 32 = m2) := by unfold Hid; rw [← hy, ← hm2]
  have HM3 : Hid (x / 1024 = m3) := hm3.symm
  clear hy hm1 hm2 hm3
  by_cases hbad : 286 < 257 + m1 ∨ 30 < 1 + m2
  · have HR : Hid (Dyn X.data.toList t (.inl 3)) := .counts3 x HX.out (by rw [HM1.out, HM2.out]; exact hbad)
    by_cases hb1 : 286 < 257 + m1
    · have g1 : (286 : Int) < 257 + (m1 : Int) := by omega
      go_wp2
      go_ret
      exact .inl ⟨3, by decide, HR.out, rfl, HK1.out.below⟩
    · have g1 : ¬ (286 : Int) < 257 + (m1 : Int) := by omega
      have g2 : (30 : Int) < 1 + (m2 : Int) := by omega
      go_wp2
      go_ret
      exact .inl ⟨3, by decide, HR.out, rfl, HK1.out.below⟩
  · have g1 : ¬ (286 : Int) < 257 + (m1 : Int) := by omega
    have g2 : ¬ (30 : Int) < 1 + (m2 : Int) := by omega
    have hc : 257 + x % 32 ≤ 286 ∧ 1 + x / 32 % 32 ≤ 30 := by rw [HM1.out, HM2.out]; omega
    have HC := hidM hc
    obtain ⟨nl, hnl⟩ : ∃ nl, nl = 257 + m1 := ⟨_, rfl⟩
    obtain ⟨nd, hnd⟩ : ∃ nd, nd = 1 + m2 := ⟨_, rfl⟩
    obtain ⟨nc, hnc⟩ : ∃ nc, nc = 4 + m3 := ⟨_, rfl⟩
    have i1 : (257 : Int) + (m1 : Int) = (nl : Int) := by omega
    have i2 : (1 : Int) + (m2 : Int) = (nd : Int) := by omega
    have i3 : (4 : Int) + (m3 : Int) = (nc : Int) := by omega
    have r1 : ¬ (286 : Int) < (nl : Int) := by omega
    have r2 : ¬ (30 : Int) < (nd : Int) := by omega
    have b1 : 257 ≤ nl ∧ nl ≤ 286 := by omega
    have b2 : 1 ≤ nd ∧ nd ≤ 30 := by omega
    have HNL : Hid (257 + x % 32 = nl) := by unfold Hid; rw [HM1.out, hnl]
    have HND : Hid (1 + x / 32 % 32 = nd) := by unfold Hid; rw [HM2.out, hnd]
    have HNC : Hid (4 + x / 1024 = nc) := by unfold Hid; rw [HM3.out, hnc]
    have HFI := hidM (readFirst_any B X (t + 14) nc w1 HS1.out.box.c0 HS1.out.box.lt hBp HS1.out.rd hX ht14 (by omega) HG1.out)
    clear hbad hc hnl hnd hnc HM1 HM2 HM3 g1 g2
    go_wp2_with fail
    refine HFI.out.mono ?_
    rintro _ w2 ⟨hp, hb2⟩
    have HB2 := hidM hb2
    have HK2 : Hid (Kept B w w2) := HK1.out.trans (hb2.kept (by have := HS1.out.rd.lt; omega))
    clear hb2 HFI
    rcases hp with ⟨h1, rfl⟩ | ⟨h1, h2, rfl⟩ | ⟨h1, h2, tb, rfl, htab, hrd2⟩
    · have HR : Hid (Dyn X.data.toList t (.inl 6)) := .first6 x HX.out HC.out (by rw [HNC.out]; exact h1)
      clear h1
      go_wp2
      go_ret
      exact .inl ⟨6, by decide, HR.out, rfl, HK2.out.below⟩
    · have HR : Hid (Dyn X.data.toList t (.inl 3)) := .first3 x HX.out HC.out (by rw [HNC.out]; exact h1) (by rw [HNC.out]; exact h2)
      clear h1 h2
      go_wp2
      go_ret
      exact .inl ⟨3, by decide, HR.out, rfl, HK2.out.below⟩
    · have HS2 := hidM (HS1.out.but HB2.out hrd2)
      have HT2 := hidM htab
      have H1 := hidM h1
      have H2 := hidM h2
      have ho1 := firstCd_ok h2
      have HLE := hidM (readLengths_any B X (t + 14 + 3 * nc) (nl + nd) (.pointer (some ⟨tb, 0, none⟩)) (firstCd X.data.toList (t + 14) nc) w2 HS2.out.box.c0 HS2.out.box.lt HS2.out.rd ho1 htab hX (by rw [← total_size]; exact h1) (by omega))
      clear h1 h2 htab hrd2 ho1 HS1 HB2
      obtain ⟨ns, hns⟩ : ∃ ns, ns = nl + nd := ⟨_, rfl⟩
      have i4 : (nl : Int) + (nd : Int) = (ns : Int) := by omega
      have HNS := hidM hns
      have b3 : ns ≤ 316 := by omega
      rw [← hns] at HLE
      clear hns
      go_wp2_with fail
      refine HLE.out.mono ?_
      rintro _ w3 ⟨hp, hb3⟩
      have HK3 : Hid (Kept B w w3) := HK2.out.trans (hb3.kept (by have := HS2.out.rd.lt; omega))
      have HB3 := hidM hb3
      clear hb3 HLE
      rcases hp with ⟨k, hk0, hl, rfl⟩ | ⟨t', l, v9, hl, hown, hrd3, rfl⟩
      · have HR : Hid (Dyn X.data.toList t (.inl k)) := .lens x k HX.out HC.out (by rw [HNC.out]; exact H1.out) (by rw [HNC.out]; exact H2.out) (by rw [HNC.out, HNL.out, HND.out, ← HNS.out]; exact hl)
        have e0 : ((k : Int) == 0) = false := by simp; omega
        clear hl
        go_wp2
        go_ret
        exact .inl ⟨k, hk0, HR.out, rfl, HK3.out.below⟩
      · obtain ⟨k15, klen, _⟩ := hl.keep _ _ rfl (fun x hx => by simp at hx) (Nat.zero_le _)
        have htot := lens_total hl _ _ rfl H1.out
        rw [total_size] at htot
        have HS3 := hidM (HS2.out.but HB3.out hrd3)
        have hB2 := HS2.out.box.lt
        obtain ⟨g, cap, rfl, hcap, hgB, hi1, hi2⟩ := ints_take (nl := nl) hown k15 (by have := HNS.out; omega) (by omega)
        have hL1 : (cdL (l.take nl)).L = nl := by show (l.take nl).length = nl; rw [List.length_take]; have := HNS.out; omega
        have hL2 : (cdL (l.drop nl)).L = l.length - nl := by show (l.drop nl).length = _; rw [List.length_drop]
        have le15 : ∀ (m : List Nat) i, (∀ x ∈ m, x ≤ 15) → (cdL m).ln i ≤ 15 := fun m i hm => by
          unfold cdL
          simp only [List.getD_eq_getElem?_getD]
          cases hg : m[i]? with
          | none => simp
          | some x => exact hm x (List.mem_of_getElem? hg)
        have hU := use_drew B X t' most last v o p1 p2 p3 p4 (cdL (l.take nl)) (cdL (l.drop nl)) (some ⟨g, 0, none⟩) (some ⟨g, nl, none⟩) w3 HS3.out (by rw [hL1]; exact hi1) (by rw [hL2]; exact hi2) (by omega) (by omega) (by rw [hL2]; omega)
          (fun i => le15 _ i (fun x hx => k15 x (List.mem_of_mem_take hx))) (fun i => le15 _ i (fun x hx => k15 x (List.mem_of_mem_drop hx))) (fun bb oo e => by simp only [Option.some.injEq, Addr.mk.injEq] at e; omega)
        rw [hL1, hL2] at hU
        have hnd9 : l.length - nl = nd := by have := HNS.out; omega
        rw [hnd9] at hU
        have HU := hidM hU
        have HL := hidM hl
        have hdl : (cdL (l.take nl)).ln 256 = l.getD 256 0 := by
          show (l.take nl).getD 256 0 = l.getD 256 0
          rw [List.getD_eq_getElem?_getD, List.getD_eq_getElem?_getD, List.getElem?_take, if_pos (by omega)]
        have HFIN : Hid (∀ n w', UsePost B X t' most last v o p3 p4 (cdL (l.take nl)) (cdL (l.drop nl)) w3 (.returned (.int .i64 (n : Int))) w' → DynPost B X t most last v o p3 p4 w (.returned (.int .i64 (n : Int))) w') := fun n w' h => by
          have hl' : Lens (firstCd X.data.toList (t + 14) (4 + x / 1024)) X.data.toList (257 + x % 32 + (1 + x / 32 % 32)) (t + 14 + 3 * (4 + x / 1024)) [] (.inr (t', l)) := by rw [HNC.out, HNL.out, HND.out, ← HNS.out]; exact hl
          have hf' : t + 14 + 3 * (4 + x / 1024) ≤ total X.data.toList := by rw [HNC.out]; exact H1.out
          have hn' : Fit (firstCd X.data.toList (t + 14) (4 + x / 1024)).ln 19 := by rw [HNC.out]; exact H2.out
          rcases h with ⟨g1, g2, g3⟩ | ⟨g1, g2, z1, z2, g3, g4, g5, g6⟩
          · rw [hL1, hL2, hdl, hnd9] at g1
            have hD : Dyn X.data.toList t (.inl 3) := .use3 x t' l HX.out HC.out hf' hn' hl' (by rw [HNL.out, HND.out]; exact g1)
            exact .inl ⟨3, by decide, hD, g2, HK3.out.below.trans g3⟩
          · rw [hL1, hL2, hdl, hnd9] at g1
            have hD := Dyn.good x t' l HX.out HC.out hf' hn' hl' (by rw [HNL.out, HND.out]; exact g1)
            rw [HNL.out] at hD
            exact .inr ⟨_,_, t', hD, htot, g2, z1, z2, g3, g4, g5, HK3.out.trans g6⟩
        have HD := DrewOf.refl w3
        rw [klen]
        rw [klen] at hcap
        have j1 : (nl : Int) ≤ (cap : Int) := by omega
        have j2 : (nl : Int) ≤ (ns : Int) := by omega
        have j3 : (ns : Int) - (nl : Int) = (nd : Int) := by omega
        have j4 : ¬ cap = nl := by omega
        have j5 : ns - nl = nd := by omega
        clear hl hU hown hrd3 hi1 hi2 k15 klen hL1 hL2 hdl le15 hnd9
        go_wp2_with fail
        go_region_held3 (fun _ => True) (exact trivial)
          (first
            | (go_at_call 306; with_reducible refine (HU.out _ _ _ (by repeat (first | exact HD | apply DrewOf.drew | apply DrewOf.drewN))).mono ?_; rintro e w5 ⟨n5, rfl, HUP⟩))
        all_goals
          go_wp2
          go_ret
          exact HFIN.out _ _ HUP.out
end Go.Proofs.YtlmeoahcpmikiaaGreatDoor
