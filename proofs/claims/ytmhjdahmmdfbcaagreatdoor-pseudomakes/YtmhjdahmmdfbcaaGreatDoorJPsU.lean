/-
  The document's Unix of any row of seven numbers.
  The document's second of fourteen digits.
  Walks of the document's words on pseudo-versions: a number one greater, one less.
  Walks of the document's words on pseudo-versions: Parse.
-/
import Derived.Test.YtmhjdahmmdfbcaaGreatDoorJRunY
import Derived.Test.YtmhjdahmmdfbcaaGreatDoorRunB1
import Derived.Test.YtmhjdahmmdfbcaaGreatDoorRunB2
import Derived.Test.YtmhjdahmmdfbcaaGreatDoorRunB3
import Derived.Great.BuildSlice
import Derived.Test.YtmhjdahmmdfbcaaGreatDoorJRfB
namespace Go.Proofs.YtmhjdahmmdfbcaaGreatDoor
open Go.RowKit

theorem runix_no (g : Nat) (y m d h mi s : Int) (w : World) (hx : w.heap[g]? = some (.cells #[.int .i64 y, .int .i64 m, .int .i64 d, .int .i64 h, .int .i64 mi, .int .i64 s] 3)) (hn : (dayB y m d && timeB h mi s) = false) :
    Calls Tryz.prog 68 #[.slice (some ⟨g, 0, none⟩) 6 6] w fun x w' => x = .returned (.tuple #[.int .i64 0, .bool false]) ∧ Below w.heap.size w w' := by
  by_cases b1 : y < 1
  · exact runix_no1 g y m d h mi s w hx (decide_eq_true b1)
  have b1 := decide_eq_false b1
  by_cases b2 : 9999 < y
  · exact runix_no2 g y m d h mi s w hx b1 (decide_eq_true b2)
  have b2 := decide_eq_false b2
  by_cases b3 : d < 1
  · exact runix_no3 g y m d h mi s w hx b1 b2 (decide_eq_true b3)
  have b3 := decide_eq_false b3
  by_cases b4 : (daysI y m : Int) < d
  · exact runix_no4 g y m d h mi s w hx b1 b2 b3 (decide_eq_true b4)
  have b4 := decide_eq_false b4
  by_cases b5 : h < 0
  · exact runix_no5 g y m d h mi s w hx b1 b2 b3 b4 (decide_eq_true b5)
  have b5 := decide_eq_false b5
  by_cases b6 : 23 < h
  · exact runix_no6 g y m d h mi s w hx b1 b2 b3 b4 b5 (decide_eq_true b6)
  have b6 := decide_eq_false b6
  by_cases b7 : mi < 0
  · exact runix_no7 g y m d h mi s w hx b1 b2 b3 b4 b5 b6 (decide_eq_true b7)
  have b7 := decide_eq_false b7
  by_cases b8 : 59 < mi
  · exact runix_no8 g y m d h mi s w hx b1 b2 b3 b4 b5 b6 b7 (decide_eq_true b8)
  have b8 := decide_eq_false b8
  by_cases b9 : s < 0
  · exact runix_no9 g y m d h mi s w hx b1 b2 b3 b4 b5 b6 b7 b8 (decide_eq_true b9)
  have b9 := decide_eq_false b9
  by_cases b10 : 59 < s
  · exact runix_no10 g y m d h mi s w hx b1 b2 b3 b4 b5 b6 b7 b8 b9 (decide_eq_true b10)
  exfalso
  simp only [decide_eq_false_iff_not] at b1 b2 b3 b4 b5 b6 b7 b8 b9
  have e1 : dayB y m d = true := decide_eq_true ⟨by omega, by omega, by omega, by omega⟩
  have e2 : timeB h mi s = true := by
    unfold timeB
    rw [decide_eq_true ⟨by omega, by omega⟩, decide_eq_true ⟨by omega, by omega⟩, decide_eq_true ⟨by omega, by omega⟩]
    rfl
  rw [e1, e2] at hn
  exact absurd hn (by decide)
end Go.Proofs.YtmhjdahmmdfbcaaGreatDoor
namespace Go.Proofs.YtmhjdahmmdfbcaaGreatDoor
open Go.RowKit

/-- the six numbers behind i digits -/
def valsN (d : Nat → Nat) : Nat → List Nat
  | 0 => [0, 0, 0, 0, 0, 0]
  | i + 1 => (valsN d i).set (i / 2 - 1) (10 * (valsN d i).getD (i / 2 - 1) 0 + d i)
theorem vals_len (d : Nat → Nat) : ∀ i, (valsN d i).length = 6
  | 0 => rfl
  | i + 1 => by rw [valsN, List.length_set]; exact vals_len d i
theorem vals_last (d : Nat → Nat) : valsN d 14 = [(d 0 * 10 + d 1) * 100 + (d 2 * 10 + d 3), d 4 * 10 + d 5, d 6 * 10 + d 7, d 8 * 10 + d 9, d 10 * 10 + d 11, d 12 * 10 + d 13] := by
  simp [valsN]
  omega
theorem vals_lt (d : Nat → Nat) (hd : ∀ i, d i ≤ 9) : ∀ i k, (valsN d i).getD k 0 < 10 ^ i
  | 0, k => by
    have : (valsN d 0).getD k 0 = 0 := by
      rcases Nat.lt_or_ge k 6 with h | h
      · have : k = 0 ∨ k = 1 ∨ k = 2 ∨ k = 3 ∨ k = 4 ∨ k = 5 := by omega
        rcases this with rfl | rfl | rfl | rfl | rfl | rfl <;> rfl
      · rw [List.getD_eq_getElem?_getD, List.getElem?_eq_none (by rw [vals_len]; exact h)]; rfl
    rw [this]; decide
  | i + 1, k => by
    rw [valsN, List.getD_eq_getElem?_getD, List.getElem?_set]
    have h1 := vals_lt d hd i (i / 2 - 1)
    have h2 := vals_lt d hd i k
    have h3 := hd i
    rw [Nat.pow_succ]
    split
    · split
      · simp only [Option.getD_some]; omega
      · show 0 < _; omega
    · rw [← List.getD_eq_getElem?_getD]; omega
theorem vals_13 (d : Nat → Nat) (hd : ∀ i, d i ≤ 9) (i k : Nat) (hi : i ≤ 13) : (valsN d i).getD k 0 < 10000000000000 := by
  have h1 := vals_lt d hd i k
  have h2 : 10 ^ i ≤ 10 ^ 13 := Nat.pow_le_pow_right (by decide) hi
  rw [show (10 : Nat) ^ 13 = 10000000000000 from rfl] at h2
  omega
def rowV (l : List Nat) : Array Value := (l.map fun n : Nat => Value.int .i64 (n : Int)).toArray
theorem rowV_set (l : List Nat) (k x : Nat) : (rowV l).setIfInBounds k (.int .i64 (x : Int)) = rowV (l.set k x) := by
  unfold rowV
  rw [List.map_set]
  simp
theorem rowV_at (l : List Nat) (k : Nat) (h : k < l.length) : (rowV l)[k]? = some (.int .i64 ((l.getD k 0 : Nat) : Int)) := by
  unfold rowV
  simp [h]

theorem dig_l14 (s : ByteArray) (h : s.size = 14) : digL s.data.toList = digQ s := by
  have hl := len_size s
  unfold digL digQ
  have : s.data.toList.isEmpty = false := by
    cases hs : s.data.toList with
    | nil => rw [hs] at hl; simp at hl; omega
    | cons c r => rfl
  rw [this, Bool.not_false, Bool.and_true]
  congr 1
  funext c
  unfold digC
  rw [Bool.decide_and]
theorem unix_row (y m d h mi s g : Nat) (w : World) (hx : w.heap[g]? = some (.cells #[.int .i64 (y : Int), .int .i64 (m : Int), .int .i64 (d : Int), .int .i64 (h : Int), .int .i64 (mi : Int), .int .i64 (s : Int)] 3 (0, 0))) :
    Calls Tryz.prog 68 #[.slice (some ⟨g, 0, none⟩) 6 6] w fun x w' => x = .returned (.tuple #[.int .i64 (unixF y m d h mi s).1, .bool ((unixF y m d h mi s).2 == 0)]) ∧ Below w.heap.size w w' := by
  unfold unixF
  cases hn : dayB (y : Int) (m : Int) (d : Int) && timeB (h : Int) (mi : Int) (s : Int) with
  | false => exact runix_no g y m d h mi s w hx hn
  | true =>
    rw [Bool.and_eq_true] at hn
    obtain ⟨h1, h2⟩ := hn
    have hd := of_decide_eq_true h1
    unfold timeB at h2
    simp only [Bool.and_eq_true, decide_eq_true_eq] at h2
    obtain ⟨⟨⟨t1, t2⟩, t3, t4⟩, t5, t6⟩ := h2
    obtain ⟨d1, d2, d3, d4⟩ := hd
    have hm : 1 ≤ (m : Int) ∧ (m : Int) ≤ 12 := by
      refine Classical.byContradiction fun hc => ?_
      unfold daysI at d4
      rw [if_neg hc] at d4
      omega
    rw [days_cast] at d4
    have hday : IsDay (dN y m d) y m d := ⟨by omega, by omega, by omega, by omega, by omega, by omega, rfl⟩
    exact runix_yes g (dN y m d) y m d h mi s w hx hday (by omega) (by omega) (by omega)

set_option maxHeartbeats 2000000 in
set_option maxRecDepth 100000 in
theorem second_any (s : ByteArray) (w : World) :
    Calls Tryz.prog 35 #[.string s] w fun x w' => x = .returned (.tuple #[.int .i64 (uns s).1, .bool ((uns s).2 == 0)]) ∧ Below w.heap.size w w' := by
  by_cases h14 : s.size = 14
  · have b1 : ((s.size : Int) != 14) = false := by rw [h14]; rfl
    have HDG := hidM (rdigits_any s w (by omega))
    rw [dig_l14 s h14] at HDG
    cases hq : digQ s with
    | false =>
      as_aux_lemma =>
      have HR : Hid (uns s = (0, 3)) := by unfold Hid uns; rw [hq]; simp
      rw [hq] at HDG
      clear hq h14
      go_enter Tryz.func35, Tryz.ntmps35
      go_wp2_with fail
      refine HDG.out.mono ?_
      rintro _ w1 ⟨rfl, hw1⟩
      rw [hw1]
      go_wp2
      go_ret2
      exact ⟨by rw [HR.out]; rfl, Below.refl _ _⟩
    | true =>
      as_aux_lemma =>
      have HR : Hid (uns s = unixF (two s 0 * 100 + two s 2) (two s 4) (two s 6) (two s 8) (two s 10) (two s 12)) := by unfold Hid uns; rw [if_pos ⟨h14, hq⟩]
      rw [hq] at HDG
      obtain ⟨d, hd⟩ : ∃ d : Nat → Nat, d = fun i => (s.data.toList.getD i 0).toNat - 48 := ⟨_, rfl⟩
      have HLA : Hid (valsN d 14 = [two s 0 * 100 + two s 2, two s 4, two s 6, two s 8, two s 10, two s 12]) := by
        unfold Hid; rw [vals_last, hd]; rfl
      have hdb : ∀ i (hi : i < s.size), 48 ≤ s[i].toNat ∧ s[i].toNat ≤ 57 ∧ d i = s[i].toNat - 48 := by
        intro i hi
        have h1 : isDig s[i] := dig_at (by rw [dig_q]; exact hq) hi
        unfold isDig at h1
        exact ⟨h1.1, h1.2, by rw [hd]; show (s.data.toList.getD i 0).toNat - 48 = _; rw [getD_byte s i hi]⟩
      have hd9 : ∀ i, d i ≤ 9 := by
        intro i
        by_cases hi : i < s.size
        · have := hdb i hi; omega
        · rw [hd]
          show (s.data.toList.getD i 0).toNat - 48 ≤ 9
          rw [List.getD_eq_getElem?_getD, List.getElem?_eq_none (by rw [size_len]; omega)]
          decide
      have HVL := hidM (vals_13 d hd9)
      have HDB := hidM hdb
      have H14 := hidM h14
      have hsz : s.size ≤ 14 := by omega
      generalize two s 0 * 100 + two s 2 = vy at *
      generalize two s 4 = vm at *
      generalize two s 6 = vd at *
      generalize two s 8 = vh at *
      generalize two s 10 = vi at *
      generalize two s 12 = vs at *
      generalize uns s = R at *
      clear hq hd hdb hd9 h14
      have HX0 := hidM (heap_alloc_new w (.cells #[.int .i64 0, .int .i64 0, .int .i64 0, .int .i64 0, .int .i64 0, .int .i64 0] 3))
      have HB0 : Hid (Below w.heap.size w (w.alloc (.cells #[.int .i64 0, .int .i64 0, .int .i64 0, .int .i64 0, .int .i64 0, .int .i64 0] 3))) := (Below.refl _ w).alloc (Nat.le_refl _) _
      go_enter Tryz.func35, Tryz.ntmps35
      go_wp2_with fail
      refine HDG.out.mono ?_
      rintro _ w1 ⟨rfl, hw1⟩
      rw [hw1]
      clear hw1 HDG
      have hsz3 : (Tryz.prog.info? 3).map (·.size) = some 1 := by kernel_rfl
      have hzs3 : ((Tryz.prog.info? 3).bind (·.zero)).isSome = true := by kernel_rfl
      go_wp2_with (with_reducible refine wpList_buildFlat rfl 46 3 6 _ rfl .i64 [0, 0, 0, 0, 0, 0] Tryz.underlying46 hsz3 hzs3 (by kernel_rfl) (by decide) (by decide) (by kernel_rfl) ?_)
      go_loopw [5] (fun iv wr => ∃ i : Nat, i ≤ 14 ∧ iv = .int .i64 (i : Int) ∧ wr.heap[w.heap.size]? = some (.cells (rowV (valsN d i)) 3 (0, 0)) ∧ Below w.heap.size w wr) (fun iv _ => 14 - (intOf iv).toNat)
      case atStart => exact ⟨0, by omega, rfl, HX0.out, HB0.out⟩
      case round =>
        obtain ⟨i, hi, rfl, hx, hb⟩ := hrel
        have HX := hidM hx
        have HB := hidM hb
        clear hx hb HX0 HB0
        by_cases hlt : i < 14
        · as_aux_lemma =>
          obtain ⟨q, hq⟩ : ∃ q, q = i / 2 := ⟨_, rfl⟩
          obtain ⟨k, hk⟩ : ∃ k, k = i / 2 - 1 := ⟨_, rfl⟩
          have his : i < s.size := by rw [H14.out]; exact hlt
          obtain ⟨l1, l2, l3⟩ := HDB.out i his
          have hk6 : k < 6 := by omega
          have gk : (k : Int) < 6 := by omega
          have hcell : wr.cell? ⟨w.heap.size, k, none⟩ = some (.int .i64 (((valsN d i).getD k 0 : Nat) : Int)) := by
            rw [cell_of_row _ _ _ _ 3 (0, 0) HX.out, rowV_at _ _ (by rw [vals_len]; exact hk6)]
          have hva := HVL.out i k (by omega)
          have HNX : Hid (valsN d (i + 1) = (valsN d i).set k (10 * (valsN d i).getD k 0 + d i)) := by unfold Hid; rw [valsN, ← hk]
          obtain ⟨a, ha⟩ : ∃ a, a = (valsN d i).getD k 0 := ⟨_, rfl⟩
          rw [← ha] at hcell hva HNX
          obtain ⟨a10, h10⟩ : ∃ a10, a10 = 10 * a := ⟨_, rfl⟩
          obtain ⟨r, hr⟩ : ∃ r, r = 10 * a + d i := ⟨_, rfl⟩
          rw [← hr] at HNX
          have e1 : (i : Int) / 2 = (q : Int) := by omega
          have e1' : (i : Int).tdiv 2 = (q : Int) := by rw [Int.tdiv_eq_ediv_of_nonneg (by omega)]; exact e1
          have e2 : 10 * (a : Int) = (a10 : Int) := by omega
          have e3 : IntKind.u8.wrap ((s[i].toNat : Int) - 48) = (d i : Int) := by rw [IntKind.wrap_u8']; omega
          have e4 : (a10 : Int) + (d i : Int) = (r : Int) := by omega
          obtain ⟨f, hf⟩ : ∃ f : Int, (q : Int) - 1 = f := ⟨_, rfl⟩
          have hf1 : -1 ≤ f := by omega
          have hf2 : f ≤ 6 := by omega
          have HM : max 0 f = (k : Int) := by omega
          obtain ⟨dg, hdg⟩ : ∃ dg, dg = d i := ⟨_, rfl⟩
          rw [← hdg] at e3 e4
          have hr99 : r ≤ 1000000000000000 := by omega
          have ha99 : a10 ≤ 1000000000000000 := by omega
          have hdg9 : dg ≤ 9 := by omega
          clear hq hk ha hr h10 l3 hdg
          have hfr : wr.frozen? ⟨w.heap.size, k, none⟩ = false := by unfold World.frozen?; rw [HX.out]; simp
          go_wp2_with fail
          have HX2 : Hid ((wr.setCell ⟨w.heap.size, k, none⟩ (.int .i64 (r : Int))).drew.heap[w.heap.size]? = some (.cells (rowV (valsN d (i + 1))) 3 (0, 0))) := by
            show (wr.setCell ⟨w.heap.size, k, none⟩ (.int .i64 (r : Int))).heap[w.heap.size]? = _
            rw [setCell_eq_setRow _ _ k _ 3 (0, 0) _ HX.out, rowV_set, HNX.out]
            exact setRow_heap _ _ _ _ 3 (0, 0) HX.out
          have HB2 : Hid (Below w.heap.size w (wr.setCell ⟨w.heap.size, k, none⟩ (.int .i64 (r : Int))).drew) := (HB.out.setCell (Nat.le_refl _) _).drew
          go_region
          go_wp2
          go_roundw
          case rel => exact ⟨i + 1, by omega, by go_num, HX2.out, HB2.out⟩
          case measure => simp [intOf]; omega
        · as_aux_lemma =>
          obtain rfl : i = 14 := by omega
          have HU : Hid (Calls Tryz.prog 68 #[.slice (some ⟨w.heap.size, 0, none⟩) 6 6] wr fun x w' => x = .returned (.tuple #[.int .i64 (unixF vy vm vd vh vi vs).1, .bool ((unixF vy vm vd vh vi vs).2 == 0)]) ∧ Below wr.heap.size wr w') := by
            refine unix_row vy vm vd vh vi vs w.heap.size wr ?_
            rw [HX.out, HLA.out]
            rfl
          rw [← HR.out] at HU
          obtain ⟨r1, hr1⟩ : ∃ r1, R.1 = r1 := ⟨_, rfl⟩
          obtain ⟨r2, hr2⟩ : ∃ r2, (R.2 == 0) = r2 := ⟨_, rfl⟩
          rw [hr1, hr2] at HU
          have HR1 := hidM hr1
          have HR2 := hidM hr2
          clear hr1 hr2
          go_wp2_with fail
          refine HU.out.mono ?_
          rintro _ w2 ⟨rfl, hb2⟩
          have HB2 := hidM (HB.out.trans (hb2.mono HB.out.size))
          go_wp2
          go_ret2
          exact ⟨by rw [HR1.out, HR2.out]; rfl, HB2.out⟩
  · have b1 : ((s.size : Int) != 14) = true := by simp only [bne_iff_ne, ne_eq]; omega
    have HR : Hid (uns s = (0, 3)) := by unfold Hid uns; rw [if_neg (fun h => h14 h.1)]
    clear h14
    go_enter Tryz.func35, Tryz.ntmps35
    go_wp2
    go_ret2
    exact ⟨by rw [HR.out]; rfl, Below.refl _ _⟩
end Go.Proofs.YtmhjdahmmdfbcaaGreatDoor
namespace Go.Proofs.YtmhjdahmmdfbcaaGreatDoor
open Go.RowKit

theorem conv_one {V : World} {b : Nat} {c : UInt8} (h : V.heap[b]? = some (.cells #[.int .u8 (c.toNat : Int)] 5 (0, 0))) :
    (convert 71 9 (.slice (some ⟨b, 0, none⟩) 1 1)).run Tryz.prog V = .ok (.string ⟨#[c]⟩) V :=
  run_convert_bytes_back (P := Tryz.prog) V 71 9 5 ⟨b, 0, none⟩ 1 [c] Tryz.underlying71 Tryz.underlying5 Tryz.underlying9 (fun j hj => by
    have hj0 : j = 0 := by simpa using hj
    subst hj0
    have ha : (⟨b, 0, none⟩ : Addr).add (0 : Nat) = ⟨b, 0, none⟩ := by rw [Addr.add_lit]
    rw [ha, cell_of_row _ _ _ _ 5 (0, 0) h]
    rfl)
theorem rep_more (j : Nat) (c : UInt8) : (⟨(List.replicate j c).toArray⟩ : ByteArray) ++ ⟨#[c]⟩ = ⟨(List.replicate (j + 1) c).toArray⟩ := by
  apply ByteArray.ext
  rw [ByteArray.data_append]
  apply Array.toList_inj.1
  rw [Array.toList_append, List.replicate_succ']
theorem rep_size (j : Nat) (c : UInt8) : (⟨(List.replicate j c).toArray⟩ : ByteArray).size = j := by
  show (List.replicate j c).toArray.size = j
  simp
theorem mid_text (s : ByteArray) (m : Nat) (c : UInt8) (r : List UInt8) : (s.extract 0 m) ++ (⟨#[c]⟩ : ByteArray) ++ ⟨r.toArray⟩ = ⟨(s.data.toList.take m ++ c :: r).toArray⟩ := by
  apply bytes_ext
  rw [ByteArray.data_append, ByteArray.data_append, Array.toList_append, Array.toList_append, list_extract]
  simp

set_option maxHeartbeats 2000000 in
set_option maxRecDepth 100000 in
theorem rmore_any (s : ByteArray) (w : World) (hs : s.size ≤ 1000) (hd : ∀ c ∈ s.data.toList, c.toNat ≤ 57) :
    Calls Tryz.prog 15 #[.string s] w fun e w' => e = .returned (.string ⟨(moreL s.data.toList).toArray⟩) ∧ Below w.heap.size w w' := by
  have HLen := hidM (len_size s)
  have HD := hidM hd
  have HAT : Hid (∀ m (h : m < s.size), s.data.toList.getD m 0 = s[m]) := fun m h => getD_at s m h
  have HMI := hidM (mid_text s)
  clear hd
  generalize s.data.toList = l at *
  go_enter Tryz.func15, Tryz.ntmps15
  go_wp2
  go_loop [3] (fun kv => ∃ k : Nat, k ≤ s.size ∧ kv = .int .i64 (k : Int) ∧ nineK l l.length = nineK l k) (fun i => (intOf i).toNat)
  case atStart => exact ⟨s.size, Nat.le_refl _, rfl, by rw [HLen.out]⟩
  case round =>
    obtain ⟨k, hk, rfl, hni⟩ := hrel
    have HNI := hidM hni
    clear hni
    by_cases hk0 : k = 0
    · subst hk0
      have HR : Hid (moreL l = 49 :: List.replicate s.size 48) := by unfold Hid moreL; rw [HNI.out, ← HLen.out]; rfl
      clear HNI HAT HD HMI
      go_wp2
      go_loop [4, 5] (fun tv iv => ∃ j : Nat, j ≤ s.size ∧ iv = .int .i64 (j : Int) ∧ tv = .string ⟨(List.replicate j 48).toArray⟩) (fun _ i => s.size - (intOf i).toNat)
      case atStart => exact ⟨0, Nat.zero_le _, rfl, rfl⟩
      case round =>
        obtain ⟨j, hj, rfl, rfl⟩ := hrel
        have HAP := hidM (rep_more j 48)
        have hsz := rep_size j 48
        have HRE : Hid (j = s.size → (⟨#[49]⟩ : ByteArray) ++ ⟨(List.replicate j 48).toArray⟩ = ⟨(moreL l).toArray⟩) := fun e => by rw [HR.out, e]; apply bytes_ext; rw [ByteArray.data_append, Array.toList_append]; rfl
        generalize (⟨(List.replicate j (48 : UInt8)).toArray⟩ : ByteArray) = S at *
        have hS : S.size ≤ 1000 := by omega
        have HSZ := hidM hsz
        clear hsz
        by_cases hlt : j < s.size
        · go_wp2
          go_round
          case rel => exact ⟨j + 1, by omega, by go_num, by rw [← HAP.out]⟩
          case measure => simp [intOf]; omega
        · have HF := hidM (HRE.out (by omega))
          go_wp2
          go_ret
          exact ⟨by rw [← HF.out]; rfl, Below.refl _ _⟩
    · obtain ⟨m, hm⟩ : ∃ m, k = m + 1 := ⟨k - 1, by omega⟩
      have hms : m < s.size := by omega
      have e1 : (k : Int) - 1 = (m : Int) := by omega
      have g0 : decide ((0 : Int) < (k : Int)) = true := by simp; omega
      have b0 : ((k : Int) == 0) = false := by simp only [beq_eq_false_iff_ne, ne_eq]; omega
      have HK := hidM hm
      have HC := hidM (HAT.out m hms)
      have HLE : Hid (s[m].toNat ≤ 57) := by
        unfold Hid; rw [← HC.out, getD_in l m (by rw [HLen.out]; exact hms)]
        exact HD.out _ (List.getElem_mem _)
      clear hm hk0 HAT HD
      by_cases h9 : s[m] = 57
      · have HNX : Hid (nineK l l.length = nineK l m) := by unfold Hid; rw [HNI.out, HK.out, nineK_succ, HC.out, if_pos h9]
        have b1 : ((s[m].toNat : Int) == 57) = true := by rw [h9]; rfl
        clear HNI HC HLE h9
        go_wp2
        go_round
        case rel => exact ⟨m, by omega, by go_num, HNX.out⟩
        case measure => simp [intOf]; omega
      · have b1 : ((s[m].toNat : Int) == 57) = false := by
          simp only [beq_eq_false_iff_ne, ne_eq]
          intro h
          exact h9 (UInt8.toNat_inj.1 (by show s[m].toNat = 57; omega))
        have HR : Hid (moreL l = l.take m ++ (s[m] + 1) :: List.replicate (s.size - k) 48) := by
          unfold Hid moreL
          rw [HNI.out, HK.out, nineK_succ, HC.out, if_neg h9, moreAt_succ, HC.out, HLen.out]
        have hu := byte_inc s[m] HLE.out
        obtain ⟨c, hc⟩ : ∃ c, c = s[m] + 1 := ⟨_, rfl⟩
        rw [← hc] at hu HR
        have e2 : (s[m].toNat : Int) + 1 = (c.toNat : Int) := by omega
        have hc1 : c.toNat ≤ 255 := by have := c.toNat_lt; omega
        have HCV : ∀ V : World, ∀ b : Nat, V.heap[b]? = some (.cells #[.int .u8 (c.toNat : Int)] 5 (0, 0)) → (convert 71 9 (.slice (some ⟨b, 0, none⟩) 1 1)).run Tryz.prog V = .ok (.string ⟨#[c]⟩) V := fun V b h => conv_one h
        clear HNI HC HLE h9 hu hc
        go_wp2
        go_loop [4, 5] (fun tv iv => ∃ j : Nat, k + j ≤ s.size ∧ iv = .int .i64 ((k + j : Nat) : Int) ∧ tv = .string ⟨(List.replicate j 48).toArray⟩) (fun _ i => s.size - (intOf i).toNat)
        case atStart => exact ⟨0, by omega, rfl, rfl⟩
        case round =>
          obtain ⟨j, hj, rfl, rfl⟩ := hrel
          have HAP := hidM (rep_more j 48)
          have hsz := rep_size j 48
          obtain ⟨p, hp⟩ : ∃ p, p = k + j := ⟨_, rfl⟩
          rw [← hp] at hj ⊢
          have HRE : Hid (p = s.size → s.extract 0 m ++ (⟨#[c]⟩ : ByteArray) ++ ⟨(List.replicate j 48).toArray⟩ = ⟨(moreL l).toArray⟩) := fun e => by rw [HR.out, show s.size - k = j by omega]; exact HMI.out m c _
          generalize (⟨(List.replicate j (48 : UInt8)).toArray⟩ : ByteArray) = S at *
          have hS : S.size ≤ 1000 := by omega
          have HSZ := hidM hsz
          have HP := hidM hp
          clear hsz hp
          by_cases hlt : p < s.size
          · go_wp2
            go_round
            case rel => exact ⟨j + 1, by have := HP.out; omega, by have := HP.out; go_num, by rw [← HAP.out]⟩
            case measure => simp [intOf]; omega
          · have HF := hidM (HRE.out (by omega))
            have hcv := HCV (w.alloc (.cells #[.int .u8 (c.toNat : Int)] 5)) w.heap.size (heap_alloc_new w _)
            have hcd := HCV (w.alloc (.cells #[.int .u8 (c.toNat : Int)] 5)).drew w.heap.size (heap_alloc_new w _)
            have hex : (s.extract 0 m).size ≤ 1000 := by rw [ByteArray.size_extract]; omega
            have hc1s : (⟨#[c]⟩ : ByteArray).size = 1 := rfl
            have HBA : Hid (Below w.heap.size w (w.alloc (.cells #[.int .u8 (c.toNat : Int)] 5))) := (Below.refl _ w).alloc (Nat.le_refl _) _
            clear HCV
            go_wp2_with fail
            go_region
            all_goals go_wp2
            all_goals go_ret
            all_goals exact ⟨by rw [← HF.out]; rfl, HBA.out.drew⟩
theorem trim_text (T : ByteArray) : (⟨(trim0 T.data.toList).toArray⟩ : ByteArray) = if 1 < T.size ∧ T.data.toList.getD 0 0 = 48 then T.extract 1 T.size else T := by
  have hl := size_len T
  by_cases h : 1 < T.size ∧ T.data.toList.getD 0 0 = 48
  · rw [if_pos h]
    apply bytes_ext
    rw [ext_tail]
    match hT : T.data.toList with
    | [] => rw [hT] at hl; simp at hl; omega
    | [c] => rw [hT] at hl; simp at hl; omega
    | c :: d :: r =>
      have hc : c = 48 := by have := h.2; rw [hT] at this; exact this
      subst hc
      show trim0 (48 :: d :: r) = _
      rw [trim_yes]; rfl
  · rw [if_neg h]
    apply bytes_ext
    match hT : T.data.toList with
    | [] => rfl
    | [c] => rfl
    | c :: d :: r =>
      have hc : c ≠ 48 := fun hc => h ⟨by rw [hT] at hl; simp at hl; omega, by rw [hT]; exact hc⟩
      show trim0 (c :: d :: r) = _
      rw [trim_no hc]

set_option maxHeartbeats 2000000 in
set_option maxRecDepth 100000 in
theorem rbelow_any (s : ByteArray) (w : World) (hs : s.size ≤ 1000) (hn : numL s.data.toList = true) (hne : s.data.toList ≠ [48]) :
    Calls Tryz.prog 36 #[.string s] w fun e w' => e = .returned (.string ⟨(lessL s.data.toList).toArray⟩) ∧ Below w.heap.size w w' := by
  have HLen := hidM (len_size s)
  have HD := hidM (num_digs hn).1
  have hp0 : 0 < s.size := by rw [← len_size]; exact (num_digs hn).2
  have H0 := hidM (num_ahead hn hne)
  have HAT : Hid (∀ m (h : m < s.size), s.data.toList.getD m 0 = s[m]) := fun m h => getD_at s m h
  have HMI := hidM (mid_text s)
  clear hn hne
  generalize s.data.toList = l at *
  go_enter Tryz.func36, Tryz.ntmps36
  go_wp2
  go_loop [3] (fun kv => ∃ k : Nat, 1 ≤ k ∧ k ≤ s.size ∧ kv = .int .i64 (k : Int) ∧ noughtK l (l.length - 1) = noughtK l (k - 1)) (fun i => (intOf i).toNat)
  case atStart => exact ⟨s.size, hp0, Nat.le_refl _, rfl, by rw [HLen.out]⟩
  case round =>
    obtain ⟨k, hk1, hk, rfl, hni⟩ := hrel
    obtain ⟨m, hm⟩ : ∃ m, k = m + 1 := ⟨k - 1, by omega⟩
    rw [show k - 1 = m by omega] at hni
    have HNI := hidM hni
    have hms : m < s.size := by omega
    have e1 : (k : Int) - 1 = (m : Int) := by omega
    have HK := hidM hm
    have HC := hidM (HAT.out m hms)
    have HDG : Hid (48 ≤ s[m].toNat ∧ s[m].toNat ≤ 57) := by
      unfold Hid; rw [← HC.out, getD_in l m (by rw [HLen.out]; exact hms)]
      exact HD.out _ (List.getElem_mem _)
    clear hni hm HAT HD
    by_cases h0 : s[m] = 48
    · have b1 : ((s[m].toNat : Int) == 48) = true := by rw [h0]; rfl
      obtain ⟨p, hp⟩ : ∃ p, m = p + 1 := by
        refine ⟨m - 1, ?_⟩
        by_cases hm0 : m = 0
        · exfalso; subst hm0; exact H0.out (by rw [HC.out, h0])
        · omega
      have HNX : Hid (noughtK l (l.length - 1) = noughtK l (m - 1)) := by unfold Hid; rw [HNI.out, hp, noughtK_succ, ← hp, HC.out, if_pos h0, show m - 1 = p by omega]
      have hm1 : 1 ≤ m := by omega
      clear HNI HC HDG h0 hp
      go_wp2
      go_round
      case rel => exact ⟨m, hm1, by omega, by go_num, HNX.out⟩
      case measure => simp [intOf]; have := HK.out; omega
    · have b1 : ((s[m].toNat : Int) == 48) = false := by
        simp only [beq_eq_false_iff_ne, ne_eq]
        intro h
        exact h0 (UInt8.toNat_inj.1 (by show s[m].toNat = 48; omega))
      have HNK : Hid (noughtK l (l.length - 1) = m) := by
        unfold Hid
        rw [HNI.out]
        cases m with
        | zero => rfl
        | succ p => rw [noughtK_succ, HC.out, if_neg h0]
      have hu := byte_dec s[m] (by have := HDG.out; omega)
      obtain ⟨c, hc⟩ : ∃ c, c = s[m] - 1 := ⟨_, rfl⟩
      have HR : Hid (lessL l = trim0 (l.take m ++ c :: List.replicate (s.size - k) 57)) := by
        unfold Hid lessL
        rw [HNK.out]
        unfold lessAt
        rw [HC.out, hc, HLen.out, HK.out]
      rw [← hc] at hu
      have e2 : (s[m].toNat : Int) - 1 = (c.toNat : Int) := by have := HDG.out; omega
      have hc1 : c.toNat ≤ 255 := by have := c.toNat_lt; omega
      have hcv := conv_one (heap_alloc_new w (.cells #[.int .u8 (c.toNat : Int)] 5))
      have hcd : (convert 71 9 (.slice (some ⟨w.heap.size, 0, none⟩) 1 1)).run Tryz.prog (w.alloc (.cells #[.int .u8 (c.toNat : Int)] 5)).drew = .ok (.string ⟨#[c]⟩) (w.alloc (.cells #[.int .u8 (c.toNat : Int)] 5)).drew := conv_one (heap_alloc_new w (.cells #[.int .u8 (c.toNat : Int)] 5))
      have HBA : Hid (Below w.heap.size w (w.alloc (.cells #[.int .u8 (c.toNat : Int)] 5))) := (Below.refl _ w).alloc (Nat.le_refl _) _
      clear HNI HNK HC HDG h0 hu hc H0
      go_wp2
      go_loop [4, 5] (fun tv iv => ∃ j : Nat, k + j ≤ s.size ∧ iv = .int .i64 ((k + j : Nat) : Int) ∧ tv = .string ⟨(List.replicate j 57).toArray⟩) (fun _ i => s.size - (intOf i).toNat)
      case atStart => exact ⟨0, by omega, rfl, rfl⟩
      case round =>
        obtain ⟨j, hj, rfl, rfl⟩ := hrel
        have HAP := hidM (rep_more j 57)
        have hsz := rep_size j 57
        obtain ⟨p, hp⟩ : ∃ p, p = k + j := ⟨_, rfl⟩
        rw [← hp] at hj ⊢
        have HRE : Hid (p = s.size → s.extract 0 m ++ (⟨#[c]⟩ : ByteArray) ++ ⟨(List.replicate j 57).toArray⟩ = ⟨(l.take m ++ c :: List.replicate (s.size - k) 57).toArray⟩) := fun e => by rw [show s.size - k = j by omega]; exact HMI.out m c _
        generalize (⟨(List.replicate j (57 : UInt8)).toArray⟩ : ByteArray) = S at *
        have hS : S.size ≤ 1000 := by omega
        have HSZ := hidM hsz
        have HP := hidM hp
        clear hsz hp
        by_cases hlt : p < s.size
        · as_aux_lemma =>
          go_wp2
          go_round
          case rel => exact ⟨j + 1, by have := HP.out; omega, by have := HP.out; go_num, by rw [← HAP.out]⟩
          case measure => simp [intOf]; omega
        · as_aux_lemma =>
          have HF := hidM (HRE.out (by omega))
          have hex : (s.extract 0 m).size ≤ 1000 := by rw [ByteArray.size_extract]; omega
          have hc1s : (⟨#[c]⟩ : ByteArray).size = 1 := rfl
          have HTT : Hid ((⟨(lessL l).toArray⟩ : ByteArray) = if 1 < (s.extract 0 m ++ (⟨#[c]⟩ : ByteArray) ++ S).size ∧ (s.extract 0 m ++ (⟨#[c]⟩ : ByteArray) ++ S).data.toList.getD 0 0 = 48 then (s.extract 0 m ++ (⟨#[c]⟩ : ByteArray) ++ S).extract 1 (s.extract 0 m ++ (⟨#[c]⟩ : ByteArray) ++ S).size else (s.extract 0 m ++ (⟨#[c]⟩ : ByteArray) ++ S)) := by
            unfold Hid; rw [HR.out, HF.out]; exact trim_text ⟨(l.take m ++ c :: List.replicate (s.size - k) 57).toArray⟩
          have hTs : (s.extract 0 m ++ (⟨#[c]⟩ : ByteArray) ++ S).size ≤ 3000 ∧ 1 ≤ (s.extract 0 m ++ (⟨#[c]⟩ : ByteArray) ++ S).size := by
            rw [ByteArray.size_append, ByteArray.size_append, hc1s]; omega
          go_upto_region 9 with fail
          go_region
          generalize (s.extract 0 m ++ (⟨#[c]⟩ : ByteArray) ++ S) = T at *
          have hT0 : 0 < T.size := by omega
          have hT1 : T.size ≤ 3000 := hTs.1
          have HG := hidM (getD_at T 0 hT0)
          clear hTs
          by_cases h1 : 1 < T.size
          · have g1 : decide ((1 : Int) < (T.size : Int)) = true := by simp; omega
            by_cases hz : T[0] = 48
            · have HE : Hid ((⟨(lessL l).toArray⟩ : ByteArray) = T.extract 1 T.size) := by unfold Hid; rw [HTT.out, if_pos ⟨h1, by rw [HG.out]; exact hz⟩]
              have b2 : ((T[0].toNat : Int) == 48) = true := by rw [hz]; rfl
              clear hz h1
              go_wp2
              go_ret
              exact ⟨by rw [HE.out]; rfl, HBA.out.drew⟩
            · have HE : Hid ((⟨(lessL l).toArray⟩ : ByteArray) = T) := by unfold Hid; rw [HTT.out, if_neg (fun h => hz (by rw [← HG.out]; exact h.2))]
              have b2 : ((T[0].toNat : Int) == 48) = false := by
                simp only [beq_eq_false_iff_ne, ne_eq]
                intro h
                exact hz (UInt8.toNat_inj.1 (by show T[0].toNat = 48; omega))
              clear hz h1
              go_wp2
              go_ret
              exact ⟨by rw [HE.out]; rfl, HBA.out.drew⟩
          · have g1 : decide ((1 : Int) < (T.size : Int)) = false := by simp; omega
            have HE : Hid ((⟨(lessL l).toArray⟩ : ByteArray) = T) := by unfold Hid; rw [HTT.out, if_neg (fun h => h1 h.1)]
            clear h1
            go_wp2
            go_ret
            exact ⟨by rw [HE.out]; rfl, HBA.out.drew⟩
end Go.Proofs.YtmhjdahmmdfbcaaGreatDoor
namespace Go.Proofs.YtmhjdahmmdfbcaaGreatDoor
open Go.RowKit

theorem results_tmp4 {fn : Func} {t u x y : Tmp} (h : fn.results = #[.tmp t, .tmp u, .tmp x, .tmp y]) (tmps : Array Value) (P : Program) (w : World) :
    (results fn tmps).run P w = .ok (.tuple #[tmps.getD t undef, tmps.getD u undef, tmps.getD x undef, tmps.getD y undef]) w := by
  simp [results, h]
def told4 (t : Told) : Value := .tuple #[.string t.base, .int .i64 t.time, .string t.rev, .int .i64 t.err]
def headB (a b : ByteArray) : ByteArray := (⟨#[118]⟩ : ByteArray) ++ a ++ ⟨#[46]⟩ ++ b ++ ⟨#[46]⟩
def headT (v : Ver) : ByteArray := headB v.major v.minor
theorem app_nil (x : ByteArray) : x ++ (⟨#[]⟩ : ByteArray) = x := by
  apply bytes_ext
  rw [ByteArray.data_append, Array.toList_append]
  simp
theorem wri_text (v : Ver) : wriV v = canV v ++ buildB v.build := by
  unfold wriV buildB
  rw [empty_beq]
  split
  · rw [app_nil]
  · rfl
theorem less_text (v : Ver) : wriV (lessV v) = headT v ++ ⟨(lessL v.patch.data.toList).toArray⟩ ++ buildB v.build := by
  rw [wri_text]; rfl
theorem can_pre (v : Ver) (h : v.pre.data.toList.isEmpty = false) : canV v = headT v ++ v.patch ++ ⟨#[45]⟩ ++ v.pre := by
  apply bytes_ext
  rw [can_list, h]
  unfold headT headB numsL
  simp [ByteArray.data_append]
theorem pre_text (v : Ver) (q : ByteArray) (h : q.data.toList.isEmpty = false) : wriV (preV v q) = headT v ++ v.patch ++ ⟨#[45]⟩ ++ q ++ buildB v.build := by
  rw [wri_text, can_pre (preV v q) h]; rfl
theorem front_text (v : Ver) (f : ByteArray) (hf : Lib.hasSuffix f.data.toList [46, 48, 46] = true) (h3 : f.size ≠ 3) : 3 ≤ f.size ∧ wriV (preV v ⟨(Lib.trimSuffix f.data.toList [46, 48, 46]).toArray⟩) = headT v ++ v.patch ++ ⟨#[45]⟩ ++ f.extract 0 (f.size - 3) ++ buildB v.build := by
  have h1 := suf_split hf
  have hl : f.size = (Lib.trimSuffix f.data.toList [46, 48, 46]).length + 3 := by
    rw [← size_len]
    conv => lhs; rw [h1]
    simp
  have e : (⟨(Lib.trimSuffix f.data.toList [46, 48, 46]).toArray⟩ : ByteArray) = f.extract 0 (f.size - 3) := by
    apply bytes_ext
    rw [list_extract, hl, Nat.add_sub_cancel]
    show Lib.trimSuffix f.data.toList [46, 48, 46] = _
    generalize Lib.trimSuffix f.data.toList [46, 48, 46] = q at *
    rw [h1]
    simp
  refine ⟨by omega, ?_⟩
  rw [e, pre_text]
  rw [list_extract]
  cases hl2 : f.data.toList.take (f.size - 3) with
  | nil => have := congrArg List.length hl2; rw [List.length_take, size_len] at this; simp at this; omega
  | cons c r => rfl

/-- the box of the version that was read, and that nothing elder has turned -/
structure VbS (w : World) (B : Nat) (a b c d e : ByteArray) (n : Int) (V : World) : Prop where
  bel : Below w.heap.size w V
  row : V.heap[B]? = some (.cells #[.string a, .string b, .string c, .string d, .string e, .int .i64 n] 37 (0, 0))
theorem VbS.next {w V w' : World} {B : Nat} {a b c d e : ByteArray} {n : Int} (H : VbS w B a b c d e n V) (hb : Below V.heap.size V w') : VbS w B a b c d e n w' := ⟨H.bel.trans (hb.mono H.bel.size), box_kept H.row hb⟩
theorem VbS.drew {w V : World} {B : Nat} {a b c d e : ByteArray} {n : Int} (H : Hid (VbS w B a b c d e n V)) : Hid (VbS w B a b c d e n V.drew) := ⟨H.out.bel.drew, H.out.row⟩
theorem VbS.drewN {w V : World} {B : Nat} {a b c d e : ByteArray} {n : Int} {m : Nat} (H : Hid (VbS w B a b c d e n V)) : Hid (VbS w B a b c d e n (V.drewN m)) := ⟨below_drewN H.out.bel _, H.out.row⟩
theorem VbS.full {w V : World} {B : Nat} {a b c d e : ByteArray} {n : Int} (H : VbS w B a b c d e n V) : V.cell? ⟨B, 0, none⟩ = some (.string a) ∧ V.cell? ⟨B, 1, none⟩ = some (.string b) ∧ V.cell? ⟨B, 2, none⟩ = some (.string c) ∧ V.cell? ⟨B, 3, none⟩ = some (.string d) ∧ V.cell? ⟨B, 4, none⟩ = some (.string e) ∧ V.cell? ⟨B, 5, none⟩ = some (.int .i64 n) ∧ Hid (VbS w B a b c d e n V) := by
  refine ⟨?_, ?_, ?_, ?_, ?_, ?_, H⟩ <;> rw [cell_of_row _ _ _ _ 37 (0, 0) H.row] <;> rfl
theorem VbS.call {w V : World} {B f : Nat} {a b c d e : ByteArray} {n : Int} {args : Array Value} {v : Value} (h : Calls Tryz.prog f args V fun x w' => x = .returned v ∧ Below V.heap.size V w') (H : Hid (VbS w B a b c d e n V)) :
    Calls Tryz.prog f args V fun x w' => x = .returned v ∧ w'.cell? ⟨B, 0, none⟩ = some (.string a) ∧ w'.cell? ⟨B, 1, none⟩ = some (.string b) ∧ w'.cell? ⟨B, 2, none⟩ = some (.string c) ∧ w'.cell? ⟨B, 3, none⟩ = some (.string d) ∧ w'.cell? ⟨B, 4, none⟩ = some (.string e) ∧ w'.cell? ⟨B, 5, none⟩ = some (.int .i64 n) ∧ Hid (VbS w B a b c d e n w') :=
  h.mono fun _ _ ⟨hx, hb⟩ => ⟨hx, (H.out.next hb).full⟩

theorem front_q1 (v : Ver) (F : ByteArray) (t : Int) (id : ByteArray) (h : F.toList.isEmpty = true) : frontR v F t id = if (v.minor.toList == [48]) && (v.patch.toList == [48]) && v.build.toList.isEmpty then ⟨⟨#[]⟩, t, id, 0⟩ else noTold 3 := by
  unfold frontR baseR
  rw [h, if_pos rfl]
theorem front_q2 (v : Ver) (F : ByteArray) (t : Int) (id : ByteArray) (h : F.toList.isEmpty = false) (h2 : (F.toList == [48, 46]) = true) : frontR v F t id = if v.patch.toList == [48] then noTold 3 else ⟨headB v.major v.minor ++ ⟨(lessL v.patch.data.toList).toArray⟩ ++ buildB v.build, t, id, 0⟩ := by
  unfold frontR baseR
  rw [h, if_neg Bool.false_ne_true, h2, if_pos rfl]
  split
  · rfl
  · rw [less_text]; rfl
theorem front_q3 (v : Ver) (F : ByteArray) (t : Int) (id : ByteArray) (h : F.toList.isEmpty = false) (h2 : (F.toList == [48, 46]) = false) (h3 : Lib.hasSuffix F.data.toList [46, 48, 46] = false) : frontR v F t id = noTold 3 := by
  unfold frontR baseR
  rw [h, if_neg Bool.false_ne_true, h2, if_neg Bool.false_ne_true, h3]
  rfl
theorem front_q4 (v : Ver) (F : ByteArray) (t : Int) (id : ByteArray) (h : F.toList.isEmpty = false) (h2 : (F.toList == [48, 46]) = false) (h3 : Lib.hasSuffix F.data.toList [46, 48, 46] = true) (hz : F.size ≠ 3) :
    3 ≤ F.size ∧ frontR v F t id = ⟨headB v.major v.minor ++ v.patch ++ ⟨#[45]⟩ ++ F.extract 0 (F.size - 3) ++ buildB v.build, t, id, 0⟩ := by
  have hft := front_text v F h3 hz
  refine ⟨hft.1, ?_⟩
  unfold frontR baseR
  rw [h, if_neg Bool.false_ne_true, h2, if_neg Bool.false_ne_true, h3, if_pos rfl, hft.2]
  rfl

set_option maxHeartbeats 4000000 in
set_option maxRecDepth 100000 in
theorem rpparse_none (s : ByteArray) (w : World) (hs : s.size ≤ 9223372036854775807) (hv : parseR s = none) :
    Calls Tryz.prog 12 #[.string s] w fun x w' => x = .returned (told4 (told s)) ∧ Below w.heap.size w w' := by
  have HP := hidM (fun V => rparse_any s V hs)
  have HR : Hid (told s = noTold 4) := by unfold Hid told; rw [hv]
  rw [hv] at HP
  clear hv
  unfold noVer at HP
  simp only [Option.getD_none, Option.isSome_none] at HP
  have HP' : Hid (∀ V, Calls Tryz.prog 14 #[.string s] V fun x w' => x = .returned (.tuple #[.agg #[.string ⟨#[]⟩, .string ⟨#[]⟩, .string ⟨#[]⟩, .string ⟨#[]⟩, .string ⟨#[]⟩, .int .i64 0], .bool false]) ∧ Below V.heap.size V w') := HP.out
  clear HP
  generalize told s = R at *
  go_enter Tryz.func12, Tryz.ntmps12
  go_wp2_with fail
  refine (HP'.out _).mono ?_
  rintro _ w1 ⟨rfl, hb1⟩
  have HB1 := hidM hb1
  have HA := hidM (heap_alloc_new w1 (.cells #[.string ⟨#[]⟩, .string ⟨#[]⟩, .string ⟨#[]⟩, .string ⟨#[]⟩, .string ⟨#[]⟩, .int .i64 0] 37))
  have HAB : Hid (Below w1.heap.size w1 ((w1.alloc (.cells #[.string ⟨#[]⟩, .string ⟨#[]⟩, .string ⟨#[]⟩, .string ⟨#[]⟩, .string ⟨#[]⟩, .int .i64 0] 37)).setRow w1.heap.size #[.string ⟨#[]⟩, .string ⟨#[]⟩, .string ⟨#[]⟩, .string ⟨#[]⟩, .string ⟨#[]⟩, .int .i64 0])) := below_setRow ((Below.refl _ _).alloc (Nat.le_refl _) _) (Nat.le_refl _)
  clear hb1 HP'
  go_wp2_with (refine wpList_store_row rfl 37 (.tmp 6) (.tmp 17) rfl w1.heap.size #[.string ⟨#[]⟩, .string ⟨#[]⟩, .string ⟨#[]⟩, .string ⟨#[]⟩, .string ⟨#[]⟩, .int .i64 0] rfl rfl 37 #[.string ⟨#[]⟩, .string ⟨#[]⟩, .string ⟨#[]⟩, .string ⟨#[]⟩, .string ⟨#[]⟩, .int .i64 0] HA.out size26 rfl (ones23v _ _ _ _ _ _) ?_)
  exact bodyPost_ret (results_tmp4 rfl _ _ _) rfl ⟨by rw [HR.out]; rfl, HB1.out.trans (HAB.out.mono HB1.out.size)⟩

set_option maxHeartbeats 8000000 in
set_option maxRecDepth 100000 in
theorem rpparse_some (s : ByteArray) (w : World) (hs : s.size ≤ 9223372036854775807) (v : Ver) (hv : parseR s = some v) :
    Calls Tryz.prog 12 #[.string s] w fun x w' => x = .returned (told4 (told s)) ∧ Below w.heap.size w w' := by
  have HP := hidM (fun V => rparse_any s V hs)
  obtain ⟨z1, z2, z3, z4⟩ := ver_small hv
  have z5 := build_small hv
  have HR0 : Hid (told s = rtoldV v) := by unfold Hid told; rw [hv]; exact (rtold_eq v).symm
  rw [hv] at HP
  simp only [Option.getD_some, Option.isSome_some] at HP
  unfold rtoldV at HR0
  by_cases hsh : 0 < v.short
  · as_aux_lemma =>
    have HR : Hid (told s = noTold 4) := by unfold Hid; rw [HR0.out, if_pos hsh]
    have g1 : (0 : Int) < (v.short : Int) := by omega
    clear HR0 hsh hv
    generalize told s = R at *
    generalize v.major = a at *
    generalize v.minor = b at *
    generalize v.patch = c at *
    generalize v.pre = d at *
    generalize v.build = e at *
    generalize (v.short : Int) = n at *

    go_enter Tryz.func12, Tryz.ntmps12
    go_wp2_with fail
    refine (HP.out _).mono ?_
    rintro _ w1 ⟨rfl, hb1⟩
    have HB1 := hidM hb1
    have HA := hidM (heap_alloc_new w1 (.cells #[.string ⟨#[]⟩, .string ⟨#[]⟩, .string ⟨#[]⟩, .string ⟨#[]⟩, .string ⟨#[]⟩, .int .i64 0] 37))
    have HAB : Hid (Below w1.heap.size w1 ((w1.alloc (.cells #[.string ⟨#[]⟩, .string ⟨#[]⟩, .string ⟨#[]⟩, .string ⟨#[]⟩, .string ⟨#[]⟩, .int .i64 0] 37)).setRow w1.heap.size #[.string a, .string b, .string c, .string d, .string e, .int .i64 n])) := below_setRow ((Below.refl _ _).alloc (Nat.le_refl _) _) (Nat.le_refl _)
    have HV2 : Hid (((w1.alloc (.cells #[.string ⟨#[]⟩, .string ⟨#[]⟩, .string ⟨#[]⟩, .string ⟨#[]⟩, .string ⟨#[]⟩, .int .i64 0] 37)).setRow w1.heap.size #[.string a, .string b, .string c, .string d, .string e, .int .i64 n]).heap[w1.heap.size]? = some (.cells #[.string a, .string b, .string c, .string d, .string e, .int .i64 n] 37 (0, 0))) := setRow_heap _ _ _ _ 37 _ HA.out
    have c5 : ((w1.alloc (.cells #[.string ⟨#[]⟩, .string ⟨#[]⟩, .string ⟨#[]⟩, .string ⟨#[]⟩, .string ⟨#[]⟩, .int .i64 0] 37)).setRow w1.heap.size #[.string a, .string b, .string c, .string d, .string e, .int .i64 n]).cell? ⟨w1.heap.size, 5, none⟩ = some (.int .i64 n) := by rw [cell_of_row _ _ _ _ 37 (0, 0) HV2.out]; rfl
    clear hb1 HP
    go_wp2_with (refine wpList_store_row rfl 37 (.tmp 6) (.tmp 17) rfl w1.heap.size #[.string a, .string b, .string c, .string d, .string e, .int .i64 n] rfl rfl 37 #[.string ⟨#[]⟩, .string ⟨#[]⟩, .string ⟨#[]⟩, .string ⟨#[]⟩, .string ⟨#[]⟩, .int .i64 0] HA.out size26 rfl (ones23v _ _ _ _ _ _) ?_)
    exact bodyPost_ret (results_tmp4 rfl _ _ _) rfl ⟨by rw [HR.out]; rfl, HB1.out.trans (HAB.out.mono HB1.out.size)⟩
  · have g1 : ¬ (0 : Int) < (v.short : Int) := by omega
    rw [if_neg hsh] at HR0
    have hnd := num_digs (ver_right hv).patch
    have HNP := hidM (ver_right hv).patch
    have HF3 := hidM (fun f => front_three (f := f) hv)
    have HRB := hidM (fun V => rbuild_any v.major v.minor v.patch v.pre v.build (v.short : Int) V (by omega))
    have HBL : Hid (v.patch.data.toList ≠ [48] → ∀ V, Calls Tryz.prog 36 #[.string v.patch] V fun e w' => e = .returned (.string ⟨(lessL v.patch.data.toList).toArray⟩) ∧ Below V.heap.size V w') := fun hne V => rbelow_any v.patch V (by omega) HNP.out hne
    have HQ1 := hidM (front_q1 v)
    have HQ2 := hidM (front_q2 v)
    have HQ3 := hidM (front_q3 v)
    have HQ4 := hidM (front_q4 v)
    clear hsh hv hnd HNP
    generalize told s = R at *
    generalize v.major = a at *
    generalize v.minor = b at *
    generalize v.patch = c at *
    generalize v.pre = d at *
    generalize v.build = e at *
    generalize (v.short : Int) = n at *

    go_enter Tryz.func12, Tryz.ntmps12
    go_wp2_with fail
    refine (HP.out _).mono ?_
    rintro _ w1 ⟨rfl, hb1⟩
    have HB1 := hidM hb1
    have HA := hidM (heap_alloc_new w1 (.cells #[.string ⟨#[]⟩, .string ⟨#[]⟩, .string ⟨#[]⟩, .string ⟨#[]⟩, .string ⟨#[]⟩, .int .i64 0] 37))
    have HB2 : Hid (Below w.heap.size w ((w1.alloc (.cells #[.string ⟨#[]⟩, .string ⟨#[]⟩, .string ⟨#[]⟩, .string ⟨#[]⟩, .string ⟨#[]⟩, .int .i64 0] 37)).setRow w1.heap.size #[.string a, .string b, .string c, .string d, .string e, .int .i64 n])) := below_setRow (hb1.alloc hb1.size _) hb1.size
    have HV2 : Hid (((w1.alloc (.cells #[.string ⟨#[]⟩, .string ⟨#[]⟩, .string ⟨#[]⟩, .string ⟨#[]⟩, .string ⟨#[]⟩, .int .i64 0] 37)).setRow w1.heap.size #[.string a, .string b, .string c, .string d, .string e, .int .i64 n]).heap[w1.heap.size]? = some (.cells #[.string a, .string b, .string c, .string d, .string e, .int .i64 n] 37 (0, 0))) := setRow_heap _ _ _ _ 37 _ HA.out
    have c5 : ((w1.alloc (.cells #[.string ⟨#[]⟩, .string ⟨#[]⟩, .string ⟨#[]⟩, .string ⟨#[]⟩, .string ⟨#[]⟩, .int .i64 0] 37)).setRow w1.heap.size #[.string a, .string b, .string c, .string d, .string e, .int .i64 n]).cell? ⟨w1.heap.size, 5, none⟩ = some (.int .i64 n) := by rw [cell_of_row _ _ _ _ 37 (0, 0) HV2.out]; rfl
    clear hb1 HP HB1
    go_upto_region 4 with (refine wpList_store_row rfl 37 (.tmp 6) (.tmp 17) rfl w1.heap.size #[.string a, .string b, .string c, .string d, .string e, .int .i64 n] rfl rfl 37 #[.string ⟨#[]⟩, .string ⟨#[]⟩, .string ⟨#[]⟩, .string ⟨#[]⟩, .string ⟨#[]⟩, .int .i64 0] HA.out size26 rfl (ones23v _ _ _ _ _ _) ?_)
    clear HA
    generalize (w1.alloc (.cells #[.string ⟨#[]⟩, .string ⟨#[]⟩, .string ⟨#[]⟩, .string ⟨#[]⟩, .string ⟨#[]⟩, .int .i64 0] 37)).setRow w1.heap.size #[.string a, .string b, .string c, .string d, .string e, .int .i64 n] = W at *
    generalize w1.heap.size = B at *
    clear c5
    have c3 : W.cell? ⟨B, 3, none⟩ = some (.string d) := by rw [cell_of_row _ _ _ _ 37 (0, 0) HV2.out]; rfl
    by_cases h27 : 27 ≤ d.size
    · obtain ⟨z13, hz13⟩ : ∃ z, d.size = z + 13 := ⟨d.size - 13, by omega⟩
      obtain ⟨z12, hz12⟩ : ∃ z, z = z13 + 1 := ⟨_, rfl⟩
      obtain ⟨z27, hz27⟩ : ∃ z, z13 = z + 14 := ⟨z13 - 14, by omega⟩
      have e13 : (d.size : Int) - 13 = (z13 : Int) := by omega
      have e12 : (d.size : Int) - 12 = (z12 : Int) := by omega
      have e27 : (d.size : Int) - 27 = (z27 : Int) := by omega
      have l13 : z13 < d.size := by omega
      have l12 : z12 ≤ d.size := by omega
      have l27 : z27 ≤ d.size := by omega
      have l2713 : z27 ≤ z13 := by omega
      have l200 : z12 ≤ 200 := by omega
      have g27 : ¬ (d.size : Int) < 27 := by omega
      rw [show d.size - 13 = z13 by omega, show d.size - 12 = z12 by omega, show d.size - 27 = z27 by omega, byte_bang d z13 l13] at HR0
      have HR1 : Hid (R = if ((d[z13].toNat : Int) = 45 ∧ revB (d.extract z12 d.size) = true) then (if (uns (d.extract z27 z13)).2 == 0 then frontR v (d.extract 0 z27) (uns (d.extract z27 z13)).1 (d.extract z12 d.size) else noTold 3) else noTold 3) := by
        unfold Hid; rw [HR0.out]
        by_cases hc : (d[z13].toNat : Int) = 45 ∧ revB (d.extract z12 d.size) = true
        · rw [if_pos hc]; exact if_pos ⟨h27, hc⟩
        · rw [if_neg hc]; exact if_neg (fun h => hc h.2)
      clear HR0 hz13 hz12 hz27 h27
      by_cases h45 : (d[z13].toNat : Int) = 45
      · have b45 : ((d[z13].toNat : Int) != 45) = false := by rw [h45]; rfl
        have HRV := hidM (fun V => rrev_any (d.extract z12 d.size) V)
        have hX12 : (d.extract z12 d.size).size ≤ 200 := by rw [ByteArray.size_extract]; omega
        cases hrv : revB (d.extract z12 d.size) with
        | false =>
          as_aux_lemma =>
          have HR : Hid (R = noTold 3) := by unfold Hid; rw [HR1.out, if_neg (fun h => by rw [hrv] at h; cases h.2)]
          rw [hrv] at HRV
          clear HR1 h45 hrv HF3 HRB HBL HQ1 HQ2 HQ3 HQ4
          go_wp2_with fail
          refine (HRV.out _).mono ?_
          rintro _ w2 ⟨rfl, hw2⟩
          rw [hw2]
          go_wp2
          exact bodyPost_ret (results_tmp4 rfl _ _ _) rfl ⟨by rw [HR.out]; rfl, HB2.out⟩
        | true =>
          rw [hrv] at HRV
          have HR2 : Hid (R = if (uns (d.extract z27 z13)).2 == 0 then frontR v (d.extract 0 z27) (uns (d.extract z27 z13)).1 (d.extract z12 d.size) else noTold 3) := by unfold Hid; rw [HR1.out, if_pos ⟨h45, hrv⟩]
          have HSE := hidM (fun V => second_any (d.extract z27 z13) V)
          clear HR1 h45 hrv
          generalize (uns (d.extract z27 z13)).1 = t at *
          generalize ((uns (d.extract z27 z13)).2 == 0) = okt at *
          go_wp2_with fail
          refine (HRV.out _).mono ?_
          rintro _ w2 ⟨rfl, hw2⟩
          rw [hw2]
          clear hw2 HRV
          go_wp2_with fail
          refine (HSE.out _).mono ?_
          rintro _ w3 ⟨rfl, hb3⟩
          have HV3 := hidM (box_kept HV2.out hb3)
          have HB3 := hidM (HB2.out.trans (hb3.mono HB2.out.size))
          clear hb3 HSE HV2 HB2 c3
          have c0 : w3.cell? ⟨B, 0, none⟩ = some (.string a) := by rw [cell_of_row _ _ _ _ 37 (0, 0) HV3.out]; rfl
          have c1 : w3.cell? ⟨B, 1, none⟩ = some (.string b) := by rw [cell_of_row _ _ _ _ 37 (0, 0) HV3.out]; rfl
          have c2 : w3.cell? ⟨B, 2, none⟩ = some (.string c) := by rw [cell_of_row _ _ _ _ 37 (0, 0) HV3.out]; rfl
          have c3 : w3.cell? ⟨B, 3, none⟩ = some (.string d) := by rw [cell_of_row _ _ _ _ 37 (0, 0) HV3.out]; rfl
          have c4 : w3.cell? ⟨B, 4, none⟩ = some (.string e) := by rw [cell_of_row _ _ _ _ 37 (0, 0) HV3.out]; rfl
          cases okt with
          | false =>
            as_aux_lemma =>
            have HR : Hid (R = noTold 3) := by unfold Hid; rw [HR2.out]; rfl
            clear HR2 HF3 HRB HBL HQ1 HQ2 HQ3 HQ4
            go_wp2
            exact bodyPost_ret (results_tmp4 rfl _ _ _) rfl ⟨by rw [HR.out]; rfl, HB3.out⟩
          | true =>
            have HR3 : Hid (R = frontR v (d.extract 0 z27) t (d.extract z12 d.size)) := by unfold Hid; rw [HR2.out]; rfl
            have hF : (d.extract 0 z27).size ≤ 200 := by rw [ByteArray.size_extract]; omega
            clear HR2
            go_upto_region 10 with fail
            go_quiet (fail)
            have HS0 : Hid (VbS w B a b c d e n (w3.drewN nq)) := ⟨below_drewN HB3.out _, HV3.out⟩
            generalize d.extract z12 d.size = X12 at *
            have HFN := hidM (HF3.out z27)
            clear c0 c1 c2 c3 c4 HV3 HB3 HF3 e12 e13 e27 l12 l27 l2713
            generalize d.extract 0 z27 = F at *
            generalize w3.drewN nq = w4 at *
            obtain ⟨c0, c1, c2, c3, c4, c5, _⟩ := VbS.full HS0.out
            cases hfe : F.toList.isEmpty with
            | true =>
              have HR4 := hidM (HR3.out.trans (HQ1.out F t X12 hfe))
              clear HQ1 HQ2 HQ3 HQ4 HR3 HFN HRB HBL
              generalize hbm : (b.toList == [48]) = bm at *
              generalize hbp : (c.toList == [48]) = bp at *
              generalize hbb : e.toList.isEmpty = bb at *
              cases bm <;> cases bp <;> cases bb
              all_goals as_aux_lemma =>
                have HR := hidM HR4.out
                clear HR4
                go_wp2
                exact bodyPost_ret (results_tmp4 rfl _ _ _) rfl ⟨by rw [HR.out]; rfl, HS0.out.bel⟩
            | false =>
              cases hf2 : F.toList == [48, 46] with
              | true =>
                have HR4 := hidM (HR3.out.trans (HQ2.out F t X12 hfe hf2))
                clear HQ1 HQ2 HQ3 HQ4 HR3 HFN
                cases hp : c.toList == [48] with
                | true =>
                  as_aux_lemma =>
                  have HR : Hid (R = noTold 3) := by unfold Hid; rw [HR4.out, hp]; rfl
                  clear HR4 HRB HBL
                  go_wp2
                  exact bodyPost_ret (results_tmp4 rfl _ _ _) rfl ⟨by rw [HR.out]; rfl, HS0.out.bel⟩
                | false =>
                  as_aux_lemma =>
                  have HR : Hid (R = ⟨headB a b ++ ⟨(lessL c.data.toList).toArray⟩ ++ buildB e, t, X12, 0⟩) := by unfold Hid; rw [HR4.out, hp]; rfl
                  have hbl := HBL.out (fun hc => by rw [Lib.toList_data, hc] at hp; exact absurd hp (by decide))
                  have HB36 := hidM hbl
                  have hus : (⟨(lessL c.data.toList).toArray⟩ : ByteArray).size ≤ 300 := by
                    show (lessL c.data.toList).toArray.size ≤ _
                    have := less_len c.data.toList
                    have := len_size c
                    rw [List.size_toArray]; omega
                  have hbs : (buildB e).size ≤ 300 := by
                    unfold buildB; split
                    · exact Nat.zero_le _
                    · rw [ByteArray.size_append]; show 1 + e.size ≤ _; omega
                  clear hbl HR4 HBL
                  generalize (⟨(lessL c.data.toList).toArray⟩ : ByteArray) = u at *
                  generalize buildB e = bu at *
                  have H36 : Hid (∀ V, Hid (VbS w B a b c d e n V) → _) := fun V hV => VbS.call (HB36.out V) hV
                  have H32 : Hid (∀ V, Hid (VbS w B a b c d e n V) → _) := fun V hV => VbS.call (HRB.out V) hV
                  clear HB36 HRB
                  go_wp2_with fail
                  have hHs : ((⟨#[118]⟩ : ByteArray) ++ a ++ ⟨#[46]⟩ ++ b ++ ⟨#[46]⟩).size ≤ 500 := by
                    simp only [ByteArray.size_append]
                    show 1 + a.size + 1 + b.size + 1 ≤ 500
                    omega
                  unfold headB at HR
                  generalize ((⟨#[118]⟩ : ByteArray) ++ a ++ ⟨#[46]⟩ ++ b ++ ⟨#[46]⟩) = H at *
                  obtain ⟨Q, hQ⟩ : ∃ Q, H ++ u = Q := ⟨_, rfl⟩
                  have hQs : Q.size ≤ 800 := by rw [← hQ, ByteArray.size_append]; omega
                  rw [hQ] at HR
                  have n1 : ¬ 9223372036854775807 < H.size + u.size := by omega
                  have n2 : ¬ 9223372036854775807 < Q.size + bu.size := by omega
                  go_region_held3 (fun w' => w'.cell? ⟨B, 0, none⟩ = some (.string a) ∧ w'.cell? ⟨B, 1, none⟩ = some (.string b) ∧ w'.cell? ⟨B, 2, none⟩ = some (.string c) ∧ w'.cell? ⟨B, 3, none⟩ = some (.string d) ∧ w'.cell? ⟨B, 4, none⟩ = some (.string e) ∧ w'.cell? ⟨B, 5, none⟩ = some (.int .i64 n) ∧ Hid (VbS w B a b c d e n w'))
                    (first | exact hS2 | exact hS1 | exact VbS.full (Hid.out (by repeat (first | exact hS2.2.2.2.2.2.2 | exact hS1.2.2.2.2.2.2 | exact HS0 | apply VbS.drew | apply VbS.drewN))))
                    (first
                      | (go_at_call 36; with_reducible refine (H36.out _ (by repeat (first | exact hS2.2.2.2.2.2.2 | exact hS1.2.2.2.2.2.2 | exact HS0 | apply VbS.drew | apply VbS.drewN))).mono ?_; rintro _ v1 ⟨rfl, hS1⟩)
                      | (go_at_call 32; with_reducible refine (H32.out _ (by repeat (first | exact hS2.2.2.2.2.2.2 | exact hS1.2.2.2.2.2.2 | exact HS0 | apply VbS.drew | apply VbS.drewN))).mono ?_; rintro _ v2 ⟨rfl, hS2⟩))
                  go_wp2
                  exact bodyPost_ret (results_tmp4 rfl _ _ _) rfl ⟨by rw [HR.out]; rfl, hS2.2.2.2.2.2.2.out.bel⟩
              | false =>
                have HEN := hidM (fun V => ends_any F V (by omega))
                cases hsu : Lib.hasSuffix F.data.toList [46, 48, 46] with
                | false =>
                  as_aux_lemma =>
                  have HR := hidM (HR3.out.trans (HQ3.out F t X12 hfe hf2 hsu))
                  rw [hsu] at HEN
                  clear HQ1 HQ2 HQ3 HQ4 HR3 HFN HRB HBL hsu
                  go_wp2_with fail
                  refine (HEN.out _).mono ?_
                  rintro _ w5 ⟨rfl, hw5⟩
                  rw [hw5]
                  go_wp2
                  exact bodyPost_ret (results_tmp4 rfl _ _ _) rfl ⟨by rw [HR.out]; rfl, HS0.out.bel⟩
                | true =>
                  as_aux_lemma =>
                  have hn3 := HFN.out hsu
                  obtain ⟨hge, hr4⟩ := HQ4.out F t X12 hfe hf2 hsu hn3
                  obtain ⟨zf, hzf⟩ : ∃ zf, F.size = zf + 3 := ⟨F.size - 3, by omega⟩
                  rw [show F.size - 3 = zf by omega] at hr4
                  have HR := hidM (HR3.out.trans hr4)
                  have b3 : ((F.size : Int) == 3) = false := by simp only [beq_eq_false_iff_ne, ne_eq]; omega
                  have ef : (F.size : Int) - 3 = (zf : Int) := by omega
                  have lf : zf ≤ F.size := by omega
                  have lf2 : (zf : Int) ≤ (F.size : Int) := by omega
                  have lf3 : (0 : Int) ≤ (zf : Int) := by omega
                  have lfw : IntKind.i64.wrap (zf : Int) = (zf : Int) := by rw [IntKind.wrap_i64]; omega
                  have lf200 : zf ≤ 200 := by omega
                  have hqs : (F.extract 0 zf).size ≤ 200 := by rw [ByteArray.size_extract]; omega
                  have hbs : (buildB e).size ≤ 300 := by
                    unfold buildB; split
                    · exact Nat.zero_le _
                    · rw [ByteArray.size_append]; show 1 + e.size ≤ _; omega
                  rw [hsu] at HEN
                  have H32 : Hid (∀ V, Hid (VbS w B a b c d e n V) → _) := fun V hV => VbS.call (HRB.out V) hV
                  clear HQ1 HQ2 HQ3 HQ4 HR3 HFN HRB HBL hsu hr4 hn3 hge hzf
                  generalize buildB e = bu at *
                  go_wp2_with fail
                  refine (HEN.out _).mono ?_
                  rintro _ w5 ⟨rfl, hw5⟩
                  rw [hw5]
                  clear hw5 w5
                  go_wp2_with fail
                  have hHs : ((⟨#[118]⟩ : ByteArray) ++ a ++ ⟨#[46]⟩ ++ b ++ ⟨#[46]⟩).size ≤ 500 := by
                    simp only [ByteArray.size_append]
                    show 1 + a.size + 1 + b.size + 1 ≤ 500
                    omega
                  unfold headB at HR
                  generalize ((⟨#[118]⟩ : ByteArray) ++ a ++ ⟨#[46]⟩ ++ b ++ ⟨#[46]⟩) = H at *
                  obtain ⟨G, hG⟩ : ∃ G, F.extract 0 zf = G := ⟨_, rfl⟩
                  obtain ⟨Q1, hQ1⟩ : ∃ Q, H ++ c = Q := ⟨_, rfl⟩
                  obtain ⟨Q2, hQ2⟩ : ∃ Q, Q1 ++ (⟨#[45]⟩ : ByteArray) = Q := ⟨_, rfl⟩
                  obtain ⟨Q3, hQ3⟩ : ∃ Q, Q2 ++ G = Q := ⟨_, rfl⟩
                  rw [hQ1, hQ2, hG, hQ3] at HR
                  rw [hG] at hqs
                  have s1 : Q1.size ≤ 700 := by rw [← hQ1, ByteArray.size_append]; omega
                  have s2 : Q2.size ≤ 701 := by rw [← hQ2, ByteArray.size_append]; show Q1.size + 1 ≤ 701; omega
                  have s3 : Q3.size ≤ 901 := by rw [← hQ3, ByteArray.size_append]; omega
                  have n1 : ¬ 9223372036854775807 < H.size + c.size := by omega
                  have n2 : ¬ 9223372036854775807 < Q1.size + 1 := by omega
                  have n3 : ¬ 9223372036854775807 < Q2.size + G.size := by omega
                  have n4 : ¬ 9223372036854775807 < Q3.size + bu.size := by omega
                  go_region_held3 (fun w' => w'.cell? ⟨B, 0, none⟩ = some (.string a) ∧ w'.cell? ⟨B, 1, none⟩ = some (.string b) ∧ w'.cell? ⟨B, 2, none⟩ = some (.string c) ∧ w'.cell? ⟨B, 3, none⟩ = some (.string d) ∧ w'.cell? ⟨B, 4, none⟩ = some (.string e) ∧ w'.cell? ⟨B, 5, none⟩ = some (.int .i64 n) ∧ Hid (VbS w B a b c d e n w'))
                    (first | exact hS2 | exact hS1 | exact VbS.full (Hid.out (by repeat (first | exact hS2.2.2.2.2.2.2 | exact hS1.2.2.2.2.2.2 | exact HS0 | apply VbS.drew | apply VbS.drewN))))
                    (first
                      | (go_at_call 32; with_reducible refine (H32.out _ (by repeat (first | exact hS2.2.2.2.2.2.2 | exact hS1.2.2.2.2.2.2 | exact HS0 | apply VbS.drew | apply VbS.drewN))).mono ?_; rintro _ v2 ⟨rfl, hS2⟩))
                  go_wp2
                  exact bodyPost_ret (results_tmp4 rfl _ _ _) rfl ⟨by rw [HR.out]; rfl, hS2.2.2.2.2.2.2.out.bel⟩
      · as_aux_lemma =>
        have b45 : ((d[z13].toNat : Int) != 45) = true := by simp only [bne_iff_ne, ne_eq]; exact h45
        have HR : Hid (R = noTold 3) := by unfold Hid; rw [HR1.out, if_neg (fun h => h45 h.1)]
        clear HR1 h45 HF3 HRB HBL HQ1 HQ2 HQ3 HQ4
        go_wp2
        exact bodyPost_ret (results_tmp4 rfl _ _ _) rfl ⟨by rw [HR.out]; rfl, HB2.out⟩
    · as_aux_lemma =>
      have g27 : (d.size : Int) < 27 := by omega
      have HR : Hid (R = noTold 3) := by unfold Hid; rw [HR0.out]; exact if_neg (fun h => h27 h.1)
      clear HR0 h27 HF3 HRB HBL HQ1 HQ2 HQ3 HQ4
      go_wp2
      exact bodyPost_ret (results_tmp4 rfl _ _ _) rfl ⟨by rw [HR.out]; rfl, HB2.out⟩
end Go.Proofs.YtmhjdahmmdfbcaaGreatDoor
