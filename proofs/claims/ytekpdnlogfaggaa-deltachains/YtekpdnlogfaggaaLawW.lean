/-
  DeltaMakes, DeltaNothing.
-/
import Derived.Test.YtekpdnlogfaggaaMakE
namespace Go.Proofs.Ytekpdnlogfaggaa
open Go.RowKit

theorem back_ba (t : ByteArray) : (⟨t.data.toList.toArray⟩ : ByteArray) = t := by simp
theorem IsDelta.size {base t d : ByteArray} (h : IsDelta base t d) : d.size ≤ 5 + t.size + (t.size + 126) / 127 := by
  obtain ⟨ds, rfl, _, hl⟩ := h
  rw [ba_size]; simp only [List.length_append] at hl ⊢; omega
theorem IsDelta.ok {base t d : ByteArray} (h : IsDelta base t d) (most : Int) (hb : base.size ≤ 4000) (ht : t.size ≤ 4000) (hm : (t.size : Int) ≤ most) : apL base d most = (t.data.toList, 0) := by
  obtain ⟨ds, rfl, hk, _⟩ := h
  have := make_ok base t.data.toList ds most (by omega) (by rw [ba_len]; omega) hk (by rw [ba_len]; exact hm)
  rw [ba_len] at this
  exact this
theorem IsDelta.big {base t d : ByteArray} (h : IsDelta base t d) (most : Int) (hb : base.size ≤ 4000) (ht : t.size ≤ 4000) (hm : most < (t.size : Int)) : apL base d most = ([], 2) := by
  obtain ⟨ds, rfl, hk, _⟩ := h
  have := make_big base t.data.toList ds most (by omega) (by rw [ba_len]; omega) (by rw [ba_len]; exact hm)
  rw [ba_len] at this
  exact this
theorem IsDelta.form {base other t d : ByteArray} (h : IsDelta base t d) (most : Int) (hb : base.size ≤ 4000) (ht : t.size ≤ 4000) (ho : base.size ≠ other.size) : apL other d most = ([], 4) := by
  obtain ⟨ds, rfl, hk, _⟩ := h
  have := make_form base other t.data.toList ds most (by omega) (by rw [ba_len]; omega) ho
  rw [ba_len] at this
  exact this

set_option maxHeartbeats 2000000 in
set_option maxRecDepth 20000 in
theorem makes_walk (base t : ByteArray) (w : World) :
    Calls Try.prog 4 #[.string base, .string t] w fun e w' => e = .returned (.bool true) ∧ Below w.heap.size w w' := by
  have hb := fewL_size base 3000
  have hd := fewL_size t 3000
  go_enter Try.func4, Try.ntmps4
  go_wp2_with fail
  refine (few_any base 3000 w (by decide)).mono ?_
  rintro e w1 ⟨rfl, hw1⟩
  rw [hw1]
  clear hw1
  go_wp2_with fail
  refine (few_any t 3000 w (by decide)).mono ?_
  rintro e w1 ⟨rfl, hw1⟩
  rw [hw1]
  clear hw1
  generalize fewL base 3000 = B at *
  generalize fewL t 3000 = T at *
  go_wp2_with fail
  refine (make_any B T w (by omega) (by omega)).mono ?_
  rintro e w1 ⟨d, rfl, hD, hB1⟩
  have hds := hD.size
  have a1 := hD.ok (T.size : Int) (by omega) (by omega) (Int.le_refl _)
  have a2 := hD.big ((T.size : Int) - 1) (by omega) (by omega) (by omega)
  have c1 := apply_any B d (T.size : Int) w1 (by omega) (by omega)
  rw [a1] at c1
  simp only [back_ba] at c1
  have HB1 := hidM hB1
  clear hB1 hD
  go_wp2_with fail
  refine c1.mono ?_
  rintro e w2 ⟨rfl, hB2⟩
  have HB2 := hidM (HB1.out.trans (hB2.mono HB1.out.size))
  have c2 := rapply_any B d (T.size : Int) w2 (by omega) (by omega)
  rw [a1] at c2
  simp only [back_ba] at c2
  clear hB2 c1 HB1 a1
  go_wp2_with fail
  refine c2.mono ?_
  rintro e w3 ⟨rfl, hB3⟩
  have HB3 := hidM (HB2.out.trans (hB3.mono HB2.out.size))
  have c3 := apply_any B d ((T.size : Int) - 1) w3 (by omega) (by omega)
  rw [a2] at c3
  clear hB3 c2 HB2 a2
  go_wp2_with fail
  refine c3.mono ?_
  rintro e w4 ⟨rfl, hB4⟩
  have HB4 := hidM (HB3.out.trans (hB4.mono HB3.out.size))
  clear hB4 c3 HB3
  go_wp2_with fail
  refine (awake_any w4).mono ?_
  rintro e w5 ⟨rfl, hB5⟩
  have HB5 := hidM (HB4.out.trans (hB5.mono HB4.out.size))
  clear hB5 HB4
  obtain ⟨q, hq⟩ : ∃ q, q = (T.size + 126) / 127 := ⟨_, rfl⟩
  have hq1 : ((T.size : Int) + 126).tdiv 127 = (q : Int) := by rw [Int.tdiv_eq_ediv_of_nonneg (by omega)]; omega
  have hq2 : ((T.size : Int) + 126) / 127 = (q : Int) := by omega
  have hq3 : (d.size : Int) ≤ 10 + (T.size : Int) + q := by omega
  have hq4 : q ≤ 100 := by omega
  clear hq
  go_wp2
  go_ret
  exact ⟨rfl, HB5.out⟩

set_option maxHeartbeats 2000000 in
set_option maxRecDepth 20000 in
theorem nothing_walk (base : ByteArray) (w : World) :
    Calls Try.prog 7 #[.string base] w fun e w' => e = .returned (.bool true) ∧ Below w.heap.size w w' := by
  have hb := fewL_size base 3000
  go_enter Try.func7, Try.ntmps7
  go_wp2_with fail
  refine (few_any base 3000 w (by decide)).mono ?_
  rintro e w1 ⟨rfl, hw1⟩
  rw [hw1]
  clear hw1
  generalize fewL base 3000 = B at *
  go_wp2_with fail
  refine (make_any B ⟨#[]⟩ w (by omega) (by decide)).mono ?_
  rintro e w1 ⟨a, rfl, hA, hB1⟩
  have has := hA.size
  have a1 := hA.ok 0 (by omega) (by decide) (by decide)
  have HB1 := hidM hB1
  have HA := hidM hA
  have has' : a.size ≤ 5 := has
  clear hB1 hA has
  go_wp2_with fail
  refine (make_any B B w1 (by omega) (by omega)).mono ?_
  rintro e w2 ⟨b, rfl, hD, hB2⟩
  have hbs := hD.size
  have b1 := hD.ok 3000 (by omega) (by omega) (by omega)
  have HB2 := hidM (HB1.out.trans (hB2.mono HB1.out.size))
  have c1 := apply_any B a 0 w2 (by omega) (by omega)
  rw [a1] at c1
  have HD := hidM hD
  clear hB2 HB1 a1 hD
  go_wp2_with fail
  refine c1.mono ?_
  rintro e w3 ⟨rfl, hB3⟩
  have HB3 := hidM (HB2.out.trans (hB3.mono HB2.out.size))
  have c2 := apply_any B b 3000 w3 (by omega) (by omega)
  rw [b1] at c2
  simp only [back_ba] at c2
  clear hB3 HB2 c1 b1
  go_wp2_with fail
  refine c2.mono ?_
  rintro e w4 ⟨rfl, hB4⟩
  have HB4 := hidM (HB3.out.trans (hB4.mono HB3.out.size))
  clear hB4 HB3 c2
  have hXs : (B ++ (⟨#[120]⟩ : ByteArray)).size = B.size + 1 := by rw [ByteArray.size_append]; rfl
  have c3 := apply_any (B ++ ⟨#[120]⟩) b 3000 w4 (by omega) (by omega)
  rw [HD.out.form 3000 (by omega) (by omega) (by omega)] at c3
  have C3 := hidM c3
  clear c3 hXs
  go_wp2_with fail
  refine C3.out.mono ?_
  rintro e w5 ⟨rfl, hB5⟩
  have HB5 := hidM (HB4.out.trans (hB5.mono HB4.out.size))
  clear hB5 HB4 C3
  go_wp2_with fail
  refine (awake_any w5).mono ?_
  rintro e w6 ⟨rfl, hB6⟩
  have HB6 := hidM (HB5.out.trans (hB6.mono HB5.out.size))
  clear hB6 HB5
  have ha10 : (a.size : Int) ≤ 10 := by omega
  go_wp2
  go_ret
  exact ⟨rfl, HB6.out⟩
end Go.Proofs.Ytekpdnlogfaggaa
