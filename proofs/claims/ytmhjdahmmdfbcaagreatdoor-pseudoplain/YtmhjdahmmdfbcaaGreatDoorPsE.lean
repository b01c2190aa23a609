/-
  Walks of pseudo: cut.
-/
import Derived.Test.YtmhjdahmmdfbcaaGreatDoorPsD
namespace Go.Proofs.YtmhjdahmmdfbcaaGreatDoor
open Go.RowKit

structure CutR where
  front : ByteArray
  time : Int
  rev : ByteArray
  ok : Bool
  deriving DecidableEq
def noCut : CutR := ⟨⟨#[]⟩, 0, ⟨#[]⟩, false⟩
def cutAt (pre : ByteArray) (k : Nat) : CutR :=
  if revB (pre.extract (k + 1) pre.size) then ⟨pre.extract 0 (k - 14), (uns (pre.extract (k - 14) k)).1, pre.extract (k + 1) pre.size, (uns (pre.extract (k - 14) k)).2 == 0⟩ else noCut
def cutPre (pre : ByteArray) : CutR := if Lib.lastIndexByte pre 45 < 14 then noCut else cutAt pre (Lib.lastIndexByte pre 45).toNat
def cutV (c : CutR) : Value := .tuple #[.string c.front, .agg #[.string ⟨#[]⟩, .int .i64 c.time, .string c.rev], .bool c.ok]

theorem size29 : (Tryz.prog.info? 29).map (·.size) = some 3 := by kernel_rfl
theorem ones29 (a c : ByteArray) (n : Int) : (#[.string a, .int .i64 n, .string c] : Array Value).all (·.oneCell') = true := by simp [Value.oneCell']

theorem box3_set {V : World} {B : Nat} {a b c x y z : Value} (h : V.heap[B]? = some (.cells #[a, b, c] 29 (0, 0))) :
    (((V.setCell ⟨B, 0, none⟩ x).setCell ⟨B, 1, none⟩ y).setCell ⟨B, 2, none⟩ z).drew.heap[B]? = some (.cells #[x, y, z] 29 (0, 0)) := by
  have h1 : (V.setCell ⟨B, 0, none⟩ x).heap[B]? = some (.cells #[x, b, c] 29 (0, 0)) := by
    rw [setCell_eq_setRow V _ 0 #[a, b, c] 29 (0, 0) x h]
    exact setRow_heap V _ _ _ 29 (0, 0) h
  have h2 : ((V.setCell ⟨B, 0, none⟩ x).setCell ⟨B, 1, none⟩ y).heap[B]? = some (.cells #[x, y, c] 29 (0, 0)) := by
    rw [setCell_eq_setRow _ _ 1 #[x, b, c] 29 (0, 0) y h1]
    exact setRow_heap _ _ _ _ 29 (0, 0) h1
  show (((V.setCell ⟨B, 0, none⟩ x).setCell ⟨B, 1, none⟩ y).setCell ⟨B, 2, none⟩ z).heap[B]? = _
  rw [setCell_eq_setRow _ _ 2 #[x, y, c] 29 (0, 0) z h2]
  exact setRow_heap _ _ _ _ 29 (0, 0) h2
set_option maxHeartbeats 2000000 in
set_option maxRecDepth 100000 in
theorem pcut_any (pre : ByteArray) (w : World) (hG : GT w) (hs : pre.size ≤ 200) :
    Calls Tryz.prog 33 #[.string pre] w fun e w' => e = .returned (cutV (cutPre pre)) ∧ Below w.heap.size w w' := by
  have HLI := hidM (fun V => Tryz.strings_LastIndex_one pre ⟨#[45]⟩ rfl (by omega) V)
  have HSP := hidM (Lib.lastIndexByte_spec pre 45)
  have HX := hidM (heap_alloc_new w (.cells #[.string ⟨#[]⟩, .int .i64 0, .string ⟨#[]⟩] 29))
  have HB0 : Hid (Below w.heap.size w (w.alloc (.cells #[.string ⟨#[]⟩, .int .i64 0, .string ⟨#[]⟩] 29))) := (Below.refl _ w).alloc (Nat.le_refl _) _
  have HG0 := hidM (hG.below HB0.out)
  clear hG
  have HC : Hid (cutPre pre = if Lib.lastIndexByte pre 45 < 14 then noCut else cutAt pre (Lib.lastIndexByte pre 45).toNat) := rfl
  go_enter Tryz.func33, Tryz.ntmps33
  go_wp2_with fail
  refine (HLI.out _).mono ?_
  rintro _ w1 ⟨rfl, hw1⟩
  rw [hw1]
  clear hw1 HLI
  have h45 : (((⟨#[45]⟩ : ByteArray)[0]'(by decide)).toNat : Int) = 45 := rfl
  rw [h45]
  clear h45
  generalize Lib.lastIndexByte pre 45 = A at *
  generalize w.alloc (.cells #[.string ⟨#[]⟩, .int .i64 0, .string ⟨#[]⟩] 29) = W at *
  by_cases hA : A < 14
  · obtain ⟨f, hf⟩ : ∃ f, f = A - 14 := ⟨_, rfl⟩
    have hA1 : -1 ≤ A := by rcases HSP.out with ⟨h, _⟩ | ⟨i, _, h, _⟩ <;> omega
    have HF := hidM hf
    have e1 : A - 14 = f := hf.symm
    have g1 : f < 0 := by omega
    have HR : Hid (cutPre pre = noCut) := by unfold Hid; rw [HC.out, if_pos hA]
    clear HC HSP hf
    go_wp2_with (refine wpList_store_row rfl 29 (.tmp 3) (.tmp 23) rfl w.heap.size #[.string ⟨#[]⟩, .int .i64 0, .string ⟨#[]⟩] rfl rfl 29 #[.string ⟨#[]⟩, .int .i64 0, .string ⟨#[]⟩] HX.out size29 rfl (ones29 _ _ _) ?_)
    exact bodyPost_ret (results_tct rfl _ _ w.heap.size _ rfl (run_loadVar_row _ w.heap.size 29 29 _ (0, 0) _ (setRow_heap _ _ _ _ 29 _ HX.out) Tryz.underlying29 rfl size29)) rfl ⟨by rw [HR.out]; rfl, below_setRow HB0.out (Nat.le_refl _)⟩
  · obtain ⟨k, hk, rfl⟩ : ∃ k : Nat, k < pre.size ∧ A = (k : Int) := by
      rcases HSP.out with ⟨h, _⟩ | ⟨i, hi, h, _⟩
      · omega
      · exact ⟨i, hi, h⟩
    have HR : Hid (cutPre pre = cutAt pre k) := by unfold Hid; rw [HC.out, if_neg hA]; rfl
    unfold cutAt at HR
    clear HC HSP
    obtain ⟨f, rfl⟩ : ∃ f, k = f + 14 := ⟨k - 14, by omega⟩
    rw [Nat.add_sub_cancel] at HR
    have e1 : ((f + 14 : Nat) : Int) - 14 = (f : Int) := by omega
    have g1 : ¬ (f : Int) < 0 := by omega
    have e2 : ((f + 14 : Nat) : Int) + 1 = ((f + 15 : Nat) : Int) := by omega
    have g2 : f + 15 ≤ pre.size := by omega
    have g3 : f ≤ f + 14 := by omega
    have g4 : f ≤ pre.size := by omega
    have HRV := hidM (fun V => rev_any (pre.extract (f + 15) pre.size) V)
    have HUN := hidM (fun V => unstamp_any (pre.extract f (f + 14)) V)
    go_wp2_with fail
    refine (HRV.out _).mono ?_
    rintro _ w2 ⟨rfl, hb2⟩
    have HX2 := hidM (box_kept HX.out hb2)
    have HB2 := hidM (HB0.out.trans (hb2.mono HB0.out.size))
    have HG2 := hidM (HG0.out.below hb2)
    clear hb2 HX HB0 HG0 HRV
    rw [show f + 14 + 1 = f + 15 from rfl] at HR
    cases hrv : revB (pre.extract (f + 15) pre.size) with
    | false =>
      rw [hrv] at HR
      go_wp2_with (refine wpList_store_row rfl 29 (.tmp 3) (.tmp 23) rfl w.heap.size #[.string ⟨#[]⟩, .int .i64 0, .string ⟨#[]⟩] rfl rfl 29 #[.string ⟨#[]⟩, .int .i64 0, .string ⟨#[]⟩] HX2.out size29 rfl (ones29 _ _ _) ?_)
      exact bodyPost_ret (results_tct rfl _ _ w.heap.size _ rfl (run_loadVar_row _ w.heap.size 29 29 _ (0, 0) _ (setRow_heap _ _ _ _ 29 _ HX2.out) Tryz.underlying29 rfl size29)) rfl ⟨by rw [HR.out]; rfl, below_setRow HB2.out (Nat.le_refl _)⟩
    | true =>
      rw [hrv] at HR
      rw [if_pos rfl] at HR
      go_wp2_with fail
      refine (HUN.out _ HG2.out).mono ?_
      rintro _ w3 ⟨rfl, hb3⟩
      have HX3 := hidM (box_kept HX2.out hb3)
      have HB3 := hidM (HB2.out.trans (hb3.mono HB2.out.size))
      clear hb3 HX2 HB2 HG2 HUN
      generalize (uns (pre.extract f (f + 14))).1 = n at *
      generalize (uns (pre.extract f (f + 14))).2 = er at *
      go_wp2_with fail
      have c0 : w3.cell? ⟨w.heap.size, 0, none⟩ = some (.string ⟨#[]⟩) := by rw [cell_of_row _ _ _ _ 29 (0, 0) HX3.out]; rfl
      have c1 : w3.cell? ⟨w.heap.size, 1, none⟩ = some (.int .i64 0) := by rw [cell_of_row _ _ _ _ 29 (0, 0) HX3.out]; rfl
      have c2 : w3.cell? ⟨w.heap.size, 2, none⟩ = some (.string ⟨#[]⟩) := by rw [cell_of_row _ _ _ _ 29 (0, 0) HX3.out]; rfl
      have f0 : w3.frozen? ⟨w.heap.size, 0, none⟩ = false := by simp [World.frozen?, HX3.out]
      have f1 : w3.frozen? ⟨w.heap.size, 1, none⟩ = false := by simp [World.frozen?, HX3.out]
      have f2 : w3.frozen? ⟨w.heap.size, 2, none⟩ = false := by simp [World.frozen?, HX3.out]
      have g5 : ((f : Int) + 14 + 1) = ((f + 15 : Nat) : Int) := by omega
      have HX4 := hidM (box3_set (x := .string ⟨#[]⟩) (y := .int .i64 n) (z := .string (pre.extract (f + 15) pre.size)) HX3.out)
      have HB4 : Hid (Below w.heap.size w (((w3.setCell ⟨w.heap.size, 0, none⟩ (.string ⟨#[]⟩)).setCell ⟨w.heap.size, 1, none⟩ (.int .i64 n)).setCell ⟨w.heap.size, 2, none⟩ (.string (pre.extract (f + 15) pre.size))).drew) :=
        (((HB3.out.setCell (Nat.le_refl _) _).setCell (Nat.le_refl _) _).setCell (Nat.le_refl _) _).drew
      go_region
      generalize (((w3.setCell ⟨w.heap.size, 0, none⟩ (.string ⟨#[]⟩)).setCell ⟨w.heap.size, 1, none⟩ (.int .i64 n)).setCell ⟨w.heap.size, 2, none⟩ (.string (pre.extract (f + 15) pre.size))).drew = w4 at *
      go_wp2
      exact bodyPost_ret (results_tct rfl _ _ w.heap.size _ rfl (run_loadVar_row _ w.heap.size 29 29 _ (0, 0) _ HX4.out Tryz.underlying29 rfl size29)) rfl ⟨by rw [HR.out]; rfl, HB4.out⟩
end Go.Proofs.YtmhjdahmmdfbcaaGreatDoor
