/-
  Walks of calendar: leap, Days, daysAhead, below; the document's Leap, Days, length.
  What the rows' condition on the listed tables gives the walks; a heap into which the tables are laid meets it.
-/
import Derived.WalkKit
import Derived.WalkSpells
import Derived.WalkLawsBesides
import Derived.Laws.IdiomStrings
import Derived.Laws.BitsAllLaws
import Derived.Deep.QuietTactic
import Derived.BigQuiet
import Derived.Deep.RegionHeld3
import Derived.Deep.MidRow
import Derived.OpenShut
import Derived.OwnWalk
import Derived.BigRegion
import Derived.Deep.DeepCutAuto
import Derived.Test.YtmhjdahmmdfbcaaGreatDoorJShelK
import Derived.Test.YtmhjdahmmdfbcaaGreatDoorRows
import Derived.ProofKit
import Derived.Lay
import Derived.LaidMore
import Derived.Stop.Joined
import Derived.Stop.LaidErr
import Derived.Lib.LaidTab
namespace Go.Proofs.YtmhjdahmmdfbcaaGreatDoor
open Go.RowKit
/-- what the laid tables hold, as far as a road reads them -/
def mdI (i : Nat) : Int := ((mdN false (i + 1) : Nat) : Int)
structure GT (w : World) : Prop where
  md : ∀ i, i < 12 → w.cell? ⟨1, i, none⟩ = some (.int .i64 (mdI i))
  two : 4 < w.heap.size
  pow : Lib.TabIs Tryz.prog w "internal/strconv.uint64pow10" .u64 Lib.pow10Tab
theorem gPow : Tryz.prog.globalNamed "internal/strconv.uint64pow10" = some 4 := by kernel_rfl
theorem GT.below {w w' : World} (h : GT w) (hb : Below w.heap.size w w') : GT w' := by
  have k : ∀ {p : Addr} {v : Value}, w.cell? p = some v → w'.cell? p = some v := fun {p} {_} hp => (hb.cell (p := p) (World.block_lt_of_cell? w _ hp)).trans hp
  refine ⟨fun i hi => k (h.md i hi), Nat.lt_of_lt_of_le h.two hb.size, ?_⟩
  have h1 := h.pow
  unfold Lib.TabIs World.var? at h1 ⊢
  rw [gPow] at h1 ⊢
  simp only [Option.bind_some] at h1 ⊢
  rw [hb.block 4 h.two]
  exact h1
set_option maxRecDepth 100000 in
theorem leap_any (y : Int) (w : World) : Calls Tryz.prog 138 #[.int .i64 y] w fun e w' => e = .returned (.bool (leapI y)) ∧ w' = w := by
  by_cases h4 : y.tmod 4 = 0
  · by_cases h100 : y.tmod 100 = 0
    · have hr : leapI y = (y.tmod 400 == 0) := by unfold leapI; rw [h4, h100]; simp; rfl
      rw [hr]
      go_enter Tryz.func138, Tryz.ntmps138
      go_wp2
      go_ret
      exact ⟨rfl, rfl⟩
    · have hr : leapI y = true := by unfold leapI; rw [h4]; simp [h100]
      rw [hr]
      have hb : (y.tmod 100 == 0) = false := by simpa using h100
      go_enter Tryz.func138, Tryz.ntmps138
      go_wp2
      go_ret
      exact ⟨rfl, rfl⟩
  · have hr : leapI y = false := by unfold leapI; simp [h4]
    rw [hr]
    have hb : (y.tmod 4 == 0) = false := by simpa using h4
    go_enter Tryz.func138, Tryz.ntmps138
    go_wp2
    go_ret
    exact ⟨rfl, rfl⟩
set_option maxRecDepth 100000 in
theorem days_any (y m : Int) (w : World) (hG : GT w) :
    Calls Tryz.prog 121 #[.int .i64 y, .int .i64 m] w fun e w' => e = .returned (.int .i64 (daysI y m : Nat)) ∧ w' = w := by
  by_cases hm : 1 ≤ m ∧ m ≤ 12
  · obtain ⟨k, hk⟩ : ∃ k : Nat, m = ((k + 1 : Nat) : Int) := ⟨(m - 1).toNat, by omega⟩
    have hk12 : k < 12 := by omega
    have c := hG.md k hk12
    obtain ⟨q, hq⟩ : ∃ q : Nat, q = mdN false (k + 1) := ⟨_, rfl⟩
    have hq31 : q ≤ 31 := by rw [hq]; exact mdN_le _ _
    have c' : w.cell? ⟨1, k, none⟩ = some (.int .i64 (q : Int)) := by rw [hq]; exact c
    have e1 : m - 1 = (k : Int) := by omega
    have HL := hidM (leap_any y w)
    have hmt : m.toNat = k + 1 := by omega
    have hD : daysI y m = mdN (leapI y) (k + 1) := by unfold daysI; rw [if_pos hm, hmt]
    rw [hD]
    have t1 : decide (m < 1) = false := by simp; omega
    have t2 : decide (12 < m) = false := by simp; omega
    have t3 : m ≤ 12 := hm.2
    have t4 : 1 ≤ m := hm.1
    by_cases h2 : k = 1
    · obtain rfl : m = 2 := by omega
      subst h2
      obtain rfl : q = 28 := hq
      clear hG c hk hmt hD hm e1 t1 t2 t3 t4 hk12 hq31
      cases hl : leapI y with
      | true =>
        rw [hl] at HL
        clear hl
        go_enter Tryz.func121, Tryz.ntmps121
        go_wp2_with fail
        refine HL.out.mono ?_
        rintro _ w1 ⟨rfl, rfl⟩
        go_wp2
        go_ret
        exact ⟨rfl, rfl⟩
      | false =>
        rw [hl] at HL
        clear hl
        go_enter Tryz.func121, Tryz.ntmps121
        go_wp2_with fail
        refine HL.out.mono ?_
        rintro _ w1 ⟨rfl, rfl⟩
        go_wp2
        go_ret
        exact ⟨rfl, rfl⟩
    · have hN : mdN (leapI y) (k + 1) = q := by
        rw [hq]
        have : k = 0 ∨ k = 2 ∨ k = 3 ∨ k = 4 ∨ k = 5 ∨ k = 6 ∨ k = 7 ∨ k = 8 ∨ k = 9 ∨ k = 10 ∨ k = 11 := by omega
        rcases this with rfl | rfl | rfl | rfl | rfl | rfl | rfl | rfl | rfl | rfl | rfl <;> rfl
      rw [hN]
      have t5 : (m == 2) = false := by simp; omega
      have hkI : (k : Int) < 12 := by omega
      clear hG c hq hmt hD hm hk h2 HL hN
      go_enter Tryz.func121, Tryz.ntmps121
      go_wp2
      go_ret
      exact ⟨rfl, rfl⟩
  · have hD : daysI y m = 0 := by unfold daysI; rw [if_neg hm]
    rw [hD]
    by_cases h1' : m < 1
    · have t1 : decide (m < 1) = true := by simp; omega
      go_enter Tryz.func121, Tryz.ntmps121
      go_wp2
      go_ret
      exact ⟨rfl, rfl⟩
    · have t1 : decide (m < 1) = false := by simp; omega
      have t2 : decide (12 < m) = true := by simp; omega
      go_enter Tryz.func121, Tryz.ntmps121
      go_wp2
      go_ret
      exact ⟨rfl, rfl⟩
set_option maxRecDepth 100000 in
theorem ahead_any (y : Nat) (w : World) (h1 : 1 ≤ y) (h2 : y ≤ 10000) : Calls Tryz.prog 120 #[.int .i64 (y : Int)] w fun e w' => e = .returned (.int .i64 (aheadN y : Nat)) ∧ w' = w := by
  obtain ⟨n, rfl⟩ : ∃ n, y = n + 1 := ⟨y - 1, by omega⟩
  have e1 : ((n + 1 : Nat) : Int) - 1 = (n : Int) := by omega
  have q4 : (n : Int).tdiv 4 = ((n / 4 : Nat) : Int) := Int.ofNat_tdiv n 4
  have q100 : (n : Int).tdiv 100 = ((n / 100 : Nat) : Int) := Int.ofNat_tdiv n 100
  have q400 : (n : Int).tdiv 400 = ((n / 400 : Nat) : Int) := Int.ofNat_tdiv n 400
  have hA : aheadN (n + 1) = n * 365 + n / 4 - n / 100 + n / 400 := rfl
  rw [hA]
  have hle : n / 100 ≤ n / 4 := by omega
  have b4 : n / 4 ≤ 2500 := by omega
  have b100 : n / 100 ≤ 100 := by omega
  have b400 : n / 400 ≤ 25 := by omega
  generalize n / 4 = a at *
  generalize n / 100 = b at *
  generalize n / 400 = c at *
  have hn : n ≤ 9999 := by omega
  clear hA
  generalize ((n + 1 : Nat) : Int) = yI at *
  go_enter Tryz.func120, Tryz.ntmps120
  go_wp2
  go_ret
  exact ⟨by go_num, rfl⟩
set_option maxRecDepth 100000 in
theorem below_any (n l : Int) (w : World) : Calls Tryz.prog 137 #[.int .i64 n, .int .i64 l] w fun e w' => e = .returned (.bool (decide (0 ≤ n ∧ n < l))) ∧ w' = w := by
  by_cases h : 0 ≤ n
  · have hb : decide (0 ≤ n) = true := by simpa using h
    have hr : decide (0 ≤ n ∧ n < l) = decide (n < l) := by simp [h]
    rw [hr]
    go_enter Tryz.func137, Tryz.ntmps137
    go_wp2
    go_ret
    exact ⟨rfl, rfl⟩
  · have hb : decide (0 ≤ n) = false := by simpa using h
    have hr : decide (0 ≤ n ∧ n < l) = false := by simp [h]
    rw [hr]
    go_enter Tryz.func137, Tryz.ntmps137
    go_wp2
    go_ret
    exact ⟨rfl, rfl⟩
end Go.Proofs.YtmhjdahmmdfbcaaGreatDoor
namespace Go.Proofs.YtmhjdahmmdfbcaaGreatDoor
open Go.ChangeShapes Go.WideShapes Go.ChangeAt Go.WideMaps Go.WideElems Go.RowKit

def laidT : List (String × DataW Unit) := [("math/bits.deBruijn32tab", Rows.laid_math_bits_deBruijn32tab), ("math/bits.deBruijn64tab", Rows.laid_math_bits_deBruijn64tab), ("internal/strconv.uint64pow10", Rows.laid_internal_strconv_uint64pow10), ("unicode/utf8.acceptRanges", Rows.laid_unicode_utf8_acceptRanges), ("cartulary/calendar.monthDays", Rows.laid_cartulary_calendar_monthDays), ("unicode/utf8.first", Rows.laid_unicode_utf8_first)]
theorem own : ownKnob Tryz.prog.godebug = none := by kernel_rfl
theorem laidOut : laidOutB Tryz.prog = true := by kernel_rfl
theorem laidT_met (os : Os) (args : Array Value) : laidMetH Tryz.prog laidT ((World.laidAll Tryz.prog os laidT).forCall (fun _ _ => 0) ⟨#[], args, []⟩).memory := by
  rw [MakeChecks.laidMetH_plain _ _ _ (by kernel_rfl)]; exact laidMet_laidAll _ (by kernel_rfl) (by kernel_rfl)
theorem laid_tail {P : Program} {W : World} {x : String × DataW Unit} {rest : List (String × DataW Unit)} (h : laidMet P (x :: rest) W) : laidMet P rest W := by
  obtain ⟨ps, ⟨g', t', cs, fuel, p, q, hg', ht', hvar, hd, h1, h2⟩, hnd, hfz⟩ := h
  first
    | (subst h1; exact ⟨q, h2, (List.nodup_append.1 hnd).2.1, fun b off hm => hfz b off (List.mem_append_right _ hm)⟩)
    | (subst h2; exact ⟨q, h1, (List.nodup_append.1 hnd).2.1, fun b off hm => hfz b off (List.mem_append_right _ hm)⟩)
def mdZ : List Int := [31, 28, 31, 30, 31, 30, 31, 31, 30, 31, 30, 31]
set_option maxRecDepth 100000 in
theorem pw_data : (Rows.laid_internal_strconv_uint64pow10 : DataW Unit) = Lib.tabData .u64 Lib.pow10Tab := rfl
theorem md_data : (Rows.laid_cartulary_calendar_monthDays : DataW Unit) = Lib.tabData .i64 mdZ := rfl
theorem tPw : (Tryz.prog.globals[4]?).map (·.type) = some 163 := by kernel_rfl
theorem gMd : Tryz.prog.globalNamed "cartulary/calendar.monthDays" = some 1 := by kernel_rfl
theorem tMd : (Tryz.prog.globals[1]?).map (·.type) = some 143 := by kernel_rfl
theorem md_all : ∀ i : Fin 12, i.val < mdZ.length ∧ mdZ.getD i.val 0 = mdI i.val := by decide +kernel
set_option maxRecDepth 100000 in
theorem of_laid {W : World} (h : laidMetH Tryz.prog laidT W) : GT W := by
  rw [MakeChecks.laidMetH_plain _ _ _ (by kernel_rfl)] at h
  unfold laidT at h
  rw [pw_data, md_data] at h
  have h2 := laid_tail (laid_tail h)
  have hT2 := Lib.tabIs_of_head gPow tPw Tryz.underlying163 Tryz.underlying147 (by kernel_rfl) (by kernel_rfl) h2
  have h3 := laid_tail (laid_tail h2)
  have hT3 := Lib.tabIs_of_head gMd tMd Tryz.underlying143 Tryz.underlying3 (by kernel_rfl) (by kernel_rfl) h3
  refine ⟨fun i hi => ?_, ?_, hT2⟩
  · have hm := md_all ⟨i, hi⟩
    have := hT3.cell gMd i hm.1
    rw [hm.2] at this
    exact this
  · have := hT2.cell gPow 0 (by decide)
    exact World.block_lt_of_cell? W _ this
end Go.Proofs.YtmhjdahmmdfbcaaGreatDoor
