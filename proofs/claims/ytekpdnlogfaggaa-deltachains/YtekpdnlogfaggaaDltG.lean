/-
  DeltaBases.
-/
import Derived.Test.YtekpdnlogfaggaaDltF
namespace Go.Proofs.Ytekpdnlogfaggaa
open Go.RowKit

/-- At most n bytes of a text. -/
def fewL (s : ByteArray) (n : Nat) : ByteArray := if n < s.size then s.extract 0 n else s
theorem fewL_size (s : ByteArray) (n : Nat) : (fewL s n).size ≤ n := by
  unfold fewL; split
  · simp only [ByteArray.size_extract]; omega
  · omega
set_option maxHeartbeats 400000 in
theorem few_any (s : ByteArray) (n : Nat) (w : World) (hn : n ≤ 1000000) :
    Calls Try.prog 8 #[.string s, .int .i64 (n : Int)] w fun e w' => e = .returned (.string (fewL s n)) ∧ w' = w := by
  unfold fewL
  by_cases h : n < s.size
  · have h' : (n : Int) < s.size := by omega
    rw [if_pos h]
    go_enter Try.func8, Try.ntmps8
    go_wp2
    go_ret
    exact ⟨rfl, rfl⟩
  · have h' : ¬ (n : Int) < s.size := by omega
    rw [if_neg h]
    go_enter Try.func8, Try.ntmps8
    go_wp2
    go_ret
    exact ⟨rfl, rfl⟩
theorem wake1 : apL ⟨#[104, 101, 108, 108, 111]⟩ ⟨#[5, 7, 144, 5, 2, 33, 33]⟩ 99 = ([104, 101, 108, 108, 111, 33, 33], 0) := by decide +kernel
theorem wake2 : apL ⟨#[97, 98]⟩ ⟨#[2, 2, 145, 1, 2]⟩ 9 = ([], 3) := by decide +kernel
set_option maxHeartbeats 1000000 in
theorem awake_any (w : World) : Calls Try.prog 13 #[] w fun e w' => e = .returned (.bool true) ∧ Below w.heap.size w w' := by
  have a1 := apply_any ⟨#[104, 101, 108, 108, 111]⟩ ⟨#[5, 7, 144, 5, 2, 33, 33]⟩ 99 w (by decide) (by decide)
  rw [wake1] at a1
  go_enter Try.func13, Try.ntmps13
  go_wp2_with fail
  refine a1.mono ?_
  rintro e w1 ⟨rfl, hB1⟩
  have a2 := apply_any ⟨#[97, 98]⟩ ⟨#[2, 2, 145, 1, 2]⟩ 9 w1 (by decide) (by decide)
  rw [wake2] at a2
  clear a1
  go_wp2_with fail
  refine a2.mono ?_
  rintro e w2 ⟨rfl, hB2⟩
  have HB := hidM (hB1.trans (hB2.mono hB1.size))
  clear hB1 hB2 a2
  go_wp2
  go_ret
  exact ⟨rfl, HB.out⟩

theorem flL_len (base s : ByteArray) (size : Nat) : ∀ (k t : Nat) (out : List UInt8), out.length ≤ size → (flL base s size k t out).2 = 0 → (flL base s size k t out).1.length = size
  | 0, t, out => by
    rw [flL]; intro h
    split
    · intro h; simp at h
    · intro _; simp only; omega
  | k + 1, t, out => by
    rw [flL]; intro h
    split
    · split
      · rename_i h0
        split
        · intro h; simp at h
        · rename_i hx
          intro h
          refine flL_len base s size k _ _ ?_ h
          rw [List.length_append]
          have : (inL base s t).1.data.toList.length = (inL base s t).1.size := by simp
          omega
      · rename_i h0; intro h; exact absurd h h0
    · split
      · intro h; simp at h
      · intro _; simp only; omega

set_option maxHeartbeats 2000000 in
set_option maxRecDepth 20000 in
theorem bases_walk (base d : ByteArray) (most : Int) (w : World) :
    Calls Try.prog 6 #[.string base, .string d, .int .i64 most] w fun e w' => e = .returned (.bool true) ∧ Below w.heap.size w w' := by
  have hb := fewL_size base 2000
  have hd := fewL_size d 500
  go_enter Try.func6, Try.ntmps6
  go_wp2_with fail
  refine (few_any d 500 w (by decide)).mono ?_
  rintro e w1 ⟨rfl, hw1⟩
  rw [hw1]
  clear hw1
  go_wp2_with fail
  refine (sizes_any (fewL d 500) w (by omega)).mono ?_
  rintro e w1 ⟨rfl, hB1⟩
  go_wp2_with fail
  refine (few_any base 2000 w1 (by decide)).mono ?_
  rintro e w2 ⟨rfl, hw2⟩
  rw [hw2]
  clear hw2
  go_wp2_with fail
  refine (few_any d 500 w1 (by decide)).mono ?_
  rintro e w2 ⟨rfl, hw2⟩
  rw [hw2]
  clear hw2
  go_wp2_with fail
  refine (apply_any (fewL base 2000) (fewL d 500) most w1 (by omega) (by omega)).mono ?_
  rintro e w2 ⟨rfl, hB2⟩
  have HB := hidM (hB1.trans (hB2.mono hB1.size))
  have hlen : (sizesL (fewL d 500)).2.2.2 = 0 → (sizesL (fewL d 500)).1 = (fewL base 2000).size → (apL (fewL base 2000) (fewL d 500) most).2 = 0 → ((apL (fewL base 2000) (fewL d 500) most).1.length = (sizesL (fewL d 500)).2.1 ∧ ((sizesL (fewL d 500)).2.1 : Int) ≤ most) := by
    intro h1 h2
    unfold apL
    rw [if_pos h1, if_pos h2]
    split
    · intro h; simp at h
    · intro h; exact ⟨flL_len _ _ _ _ _ [] (Nat.zero_le _) h, by omega⟩
  have her : ¬ (sizesL (fewL d 500)).2.2.2 = 0 → apL (fewL base 2000) (fewL d 500) most = ([], (sizesL (fewL d 500)).2.2.2) := by
    intro h; unfold apL; rw [if_neg h]
  have hform : (sizesL (fewL d 500)).2.2.2 = 0 → ¬ (sizesL (fewL d 500)).1 = (fewL base 2000).size → apL (fewL base 2000) (fewL d 500) most = ([], 4) := by
    intro h1 h2; unfold apL; rw [if_pos h1, if_neg h2]
  obtain ⟨r, hr⟩ : ∃ r, sizesL (fewL d 500) = r := ⟨_, rfl⟩
  obtain ⟨q, hq⟩ : ∃ q, apL (fewL base 2000) (fewL d 500) most = q := ⟨_, rfl⟩
  rw [hr] at hlen her hform
  rw [hq] at hlen her hform
  rw [hr, hq]
  clear hr hq hB1 hB2
  obtain ⟨a, b, u, er⟩ := r
  obtain ⟨o, f⟩ := q
  simp only at hlen her hform
  have HF := hidM hform
  have HE := hidM her
  have HL := hidM hlen
  clear hform her hlen hd
  by_cases he : er = 0
  · subst he
    go_wp2_with fail
    refine (few_any base 2000 w2 (by decide)).mono ?_
    rintro e w3 ⟨rfl, hw3⟩
    rw [hw3]
    clear hw3
    generalize fewL base 2000 = B at *
    by_cases ha : a = B.size
    · have ha' : (a : Int) = (B.size : Int) := by omega
      have HL2 := hidM (HL.out trivial ha)
      clear HL HF HE
      go_wp2_with fail
      refine (awake_any w2).mono ?_
      rintro e w4 ⟨rfl, hB4⟩
      have HB4 := hidM (HB.out.trans (hB4.mono HB.out.size))
      clear hB4
      by_cases hf : f = 0
      · subst hf
        obtain ⟨h1, h2⟩ := HL2.out (by first | rfl | trivial)
        clear HL2
        subst h1
        have hl : ((⟨o.toArray⟩ : ByteArray).size : Int) = (o.length : Int) := rfl
        go_wp2
        go_ret
        exact ⟨rfl, HB4.out⟩
      · have hf' : ¬ (f : Int) = 0 := by omega
        clear HL2
        go_wp2
        go_ret
        exact ⟨rfl, HB4.out⟩
    · have ha' : ¬ (a : Int) = (B.size : Int) := by omega
      have h4 := HF.out trivial ha
      simp only [Prod.mk.injEq] at h4
      obtain ⟨rfl, rfl⟩ := h4
      clear HL HF HE
      go_wp2_with fail
      refine (awake_any w2).mono ?_
      rintro e w4 ⟨rfl, hB4⟩
      have HB4 := hidM (HB.out.trans (hB4.mono HB.out.size))
      clear hB4
      go_wp2
      go_ret
      exact ⟨rfl, HB4.out⟩
  · have he' : ¬ (er : Int) = 0 := by omega
    have h4 := HE.out he
    simp only [Prod.mk.injEq] at h4
    obtain ⟨rfl, rfl⟩ := h4
    clear HL HF HE
    go_wp2_with fail
    refine (awake_any w2).mono ?_
    rintro e w4 ⟨rfl, hB4⟩
    have HB4 := hidM (HB.out.trans (hB4.mono HB.out.size))
    clear hB4
    go_wp2
    go_ret
    exact ⟨rfl, HB4.out⟩
end Go.Proofs.Ytekpdnlogfaggaa
