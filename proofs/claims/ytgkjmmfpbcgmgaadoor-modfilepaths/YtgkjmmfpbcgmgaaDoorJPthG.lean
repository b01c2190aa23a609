/-
  Module files: what the document fixes.
  A plain module file says its path.
  The document's Find.
  The document's Path and FilePath of module files.
-/
import Derived.Test.YtgkjmmfpbcgmgaaDoorJPthD
namespace Go.Proofs.YtgkjmmfpbcgmgaaDoor
open Go.RowKit

theorem mod_one : modL [109, 111, 100, 117, 108, 101, 32, 101, 120, 97, 109, 112, 108, 101, 46, 99, 111, 109, 47, 97, 32, 47, 47, 32, 120, 10] = ([101, 120, 97, 109, 112, 108, 101, 46, 99, 111, 109, 47, 97], 0, 0) := by decide +kernel
theorem mod_two : modL [10, 34, 120, 10] = ([], 2, 3) := by decide +kernel
set_option maxHeartbeats 1000000 in
theorem awake_any (w : World) : Calls Tryd.prog 13 #[] w fun e w' => e = .returned (.bool true) ∧ Below w.heap.size w w' := by
  have H1 : Hid (∀ V, Calls Tryd.prog 11 #[.string ⟨#[109, 111, 100, 117, 108, 101, 32, 101, 120, 97, 109, 112, 108, 101, 46, 99, 111, 109, 47, 97, 32, 47, 47, 32, 120, 10]⟩] V fun e w' => e = .returned (.tuple #[.string ⟨#[101, 120, 97, 109, 112, 108, 101, 46, 99, 111, 109, 47, 97]⟩, .int .i64 0, .int .i64 0]) ∧ Below V.heap.size V w') := by
    intro V
    have h := module_any ⟨#[109, 111, 100, 117, 108, 101, 32, 101, 120, 97, 109, 112, 108, 101, 46, 99, 111, 109, 47, 97, 32, 47, 47, 32, 120, 10]⟩ V (by decide)
    unfold ModQ at h
    rw [mod_one] at h
    exact h
  have H2 : Hid (∀ V, Calls Tryd.prog 11 #[.string ⟨#[10, 34, 120, 10]⟩] V fun e w' => e = .returned (.tuple #[.string ⟨#[]⟩, .int .i64 2, .int .i64 3]) ∧ Below V.heap.size V w') := by
    intro V
    have h := module_any ⟨#[10, 34, 120, 10]⟩ V (by decide)
    unfold ModQ at h
    rw [mod_two] at h
    exact h
  go_enter Tryd.func13, Tryd.ntmps13
  go_wp2_with fail
  refine (H1.out _).mono ?_
  rintro _ w1 ⟨rfl, hb1⟩
  go_wp2_with fail
  refine (H2.out _).mono ?_
  rintro _ w2 ⟨rfl, hb2⟩
  go_wp2
  go_ret
  exact ⟨rfl, hb1.trans (hb2.mono hb1.size)⟩
end Go.Proofs.YtgkjmmfpbcgmgaaDoor
namespace Go.Proofs.YtgkjmmfpbcgmgaaDoor
open Go.RowKit

/-- no part but the first is empty -/
def Full (l : List UInt8) : Prop := ∀ p ∈ (partsL l).tail, p ≠ []
theorem Full.tail {c : UInt8} {r : List UInt8} (h : Full (c :: r)) : Full r := by
  unfold Full at *
  rw [partsL_cons] at h
  by_cases hc : c = 47
  · rw [if_pos hc] at h
    intro p hp
    exact h p (List.mem_of_mem_tail hp)
  · rw [if_neg hc] at h
    cases hp : partsL r with
    | nil => exact absurd hp (partsL_ne r)
    | cons x t => rw [hp] at h; exact h
theorem Full.next {r : List UInt8} (h : Full (47 :: r)) : ∃ d q, r = d :: q ∧ d ≠ 47 := by
  unfold Full at h
  rw [partsL_cons, if_pos rfl] at h
  cases r with
  | nil => exact absurd rfl (h [] (by simp [partsL]))
  | cons d q =>
    refine ⟨d, q, rfl, fun e => ?_⟩
    subst e
    exact absurd rfl (h [] (by rw [partsL_cons]; simp))
theorem word_all : ∀ (l t : List UInt8), (∀ c ∈ l, c = 47 ∨ plnB c = true) → Full l → wordN (l ++ 10 :: t) = l.length
  | [], t, _, _ => by simp [wordN, wEnd]
  | c :: r, t, hb, hf => by
    have ih := word_all r t (fun d hd => hb d (List.mem_cons_of_mem _ hd)) hf.tail
    have hc := hb c (by simp)
    have hw : wEnd (c :: (r ++ 10 :: t)) = false := by
      rcases hc with rfl | hp
      · obtain ⟨d, q, rfl, hd⟩ := hf.next
        have : remB (47 :: d :: (q ++ 10 :: t)) = false := by unfold remB; simp [hd]
        rw [show (47 : UInt8) :: (d :: q ++ 10 :: t) = 47 :: d :: (q ++ 10 :: t) from rfl, wEnd, this]
        rfl
      · have h47 : c ≠ 47 := by rintro rfl; exact absurd hp (by decide)
        have hx : ∀ k : UInt8, plnB k = false → c ≠ k := fun k hk e => by rw [e, hk] at hp; cases hp
        have : remB (c :: (r ++ 10 :: t)) = false := by unfold remB; simp [h47]
        rw [wEnd, this]
        unfold blkB
        simp [hx 10 (by decide), hx 32 (by decide), hx 9 (by decide), hx 13 (by decide), hx 40 (by decide), hx 41 (by decide), hx 34 (by decide), hx 96 (by decide)]
    rw [List.cons_append, wordN, hw]
    simp [ih]
theorem tok_word {c : UInt8} {r : List UInt8} (h : skipL false (c :: r) = c :: r) (hc : c ≠ 10 ∧ c ≠ 40 ∧ c ≠ 41 ∧ c ≠ 34 ∧ c ≠ 96) : tokL (c :: r) = (5, c :: r.take (wordN r), r.drop (wordN r)) := by
  unfold tokL
  rw [h, tokS]
  simp [hc]
theorem row_plain (l : List UInt8) (h : pathL l = true) : rowL (modW ++ 32 :: l ++ [10]) = some ([modW, l], 0, false, []) := by
  obtain ⟨h1, h2⟩ := path_parts h
  have hb := path_bytes h
  have hf : Full l := fun p hp e => by
    have := h2 p (List.mem_of_mem_tail hp)
    rw [e] at this
    exact absurd this (by decide)
  have hne := path_ne h
  obtain ⟨c, r, rfl⟩ : ∃ c r, l = c :: r := by
    cases l with
    | nil => exact absurd rfl hne
    | cons c r => exact ⟨c, r, rfl⟩
  have hc47 : c ≠ 47 := fun e => by
    subst e
    have := h2 [] (by rw [partsL_cons]; simp)
    exact absurd this (by decide)
  have hp : plnB c = true := by
    rcases hb c (by simp) with h | h
    · exact absurd h hc47
    · exact h
  have hx : ∀ k : UInt8, plnB k = false → c ≠ k := fun k hk e => by rw [e, hk] at hp; cases hp
  have hwn : wordN (r ++ [10]) = r.length := word_all r [] (fun d hd => hb d (List.mem_cons_of_mem _ hd)) hf.tail
  have t1 : tokL (modW ++ 32 :: (c :: r) ++ [10]) = (5, modW, 32 :: (c :: r) ++ [10]) := by
    have : tokL (modW ++ 32 :: (c :: r) ++ [10]) = tokL (109 :: 111 :: 100 :: 117 :: 108 :: 101 :: 32 :: (c :: r ++ [10])) := rfl
    rw [this]
    show _ = ((5 : Nat), modW, 32 :: (c :: r ++ [10]))
    generalize c :: r ++ [10] = q
    have hs : skipL false (109 :: 111 :: 100 :: 117 :: 108 :: 101 :: 32 :: q) = 109 :: 111 :: 100 :: 117 :: 108 :: 101 :: 32 :: q := by simp [skipL, remB, blkB]
    rw [tok_word hs (by decide)]
    have hw : wordN (111 :: 100 :: 117 :: 108 :: 101 :: 32 :: q) = 5 := by simp [wordN, wEnd, remB, blkB]
    rw [hw]
    rfl
  have t2 : tokL (32 :: (c :: r) ++ [10]) = (5, c :: r, [10]) := by
    have hs0 : remB (c :: (r ++ [10])) = false := by unfold remB; simp [hc47]
    have hs : skipL false (32 :: (c :: r) ++ [10]) = c :: (r ++ [10]) := by
      rw [show (32 : UInt8) :: (c :: r) ++ [10] = 32 :: c :: (r ++ [10]) from rfl, skipL]
      rw [if_neg (by simp [remB]), if_pos (by decide), skipL, if_neg (by rw [hs0]; simp), if_neg (by unfold blkB; simp [hx 32 (by decide), hx 9 (by decide), hx 13 (by decide)])]
    unfold tokL
    rw [hs, tokS, if_neg (hx 10 (by decide)), if_neg (hx 40 (by decide)), if_neg (hx 41 (by decide)), if_neg (hx 34 (by decide)), if_neg (hx 96 (by decide)), hwn]
    simp
  have t3 : tokL [10] = (2, [], []) := by decide
  unfold rowL
  obtain ⟨f, hf3⟩ : ∃ f, (modW ++ 32 :: (c :: r) ++ [10]).length + 1 = f + 3 := ⟨(modW ++ 32 :: (c :: r) ++ [10]).length - 2, by simp [modW]⟩
  rw [hf3, rowG, t1]
  simp only [show ¬ (5 : Nat) = 1 by omega, show ¬ (5 : Nat) = 2 by omega, show ¬ ((5 : Nat) = 6 ∨ (0 : Nat) ≠ 0) by omega, if_false, if_true]
  rw [rowG, t2]
  simp only [show ¬ (5 : Nat) = 1 by omega, show ¬ (5 : Nat) = 2 by omega, show ¬ ((5 : Nat) = 6 ∨ (0 : Nat) ≠ 0) by omega, if_false, if_true]
  rw [rowG, t3]
  simp
theorem mod_plain (l : List UInt8) (h : pathL l = true) : modL (modW ++ 32 :: l ++ [10]) = (l, 0, 0) := by
  have hr := row_plain l h
  have hn : rowL [] = some ([], 0, true, []) := by decide
  have hp : parL (modW ++ 32 :: l ++ [10]) = ([(modW, [l], 1)], 0, 0) := by
    unfold parL
    obtain ⟨f, hf⟩ : ∃ f, (modW ++ 32 :: l ++ [10]).length + 1 = f + 2 := ⟨(modW ++ 32 :: l ++ [10]).length - 1, by simp [modW]⟩
    rw [hf, parG, hr]
    simp only [takeD]
    simp only [show ¬ (0 : Nat) = 3 by omega, show ¬ (0 : Nat) = 4 by omega, if_false]
    simp [modW, parG, hn, takeD]
  unfold modL
  rw [hp]
  simp [modG, h, path_ne h]
def plainB : ByteArray := ⟨#[109, 111, 100, 117, 108, 101, 32]⟩
theorem plain_list (s : ByteArray) : (plainB ++ s ++ (⟨#[10]⟩ : ByteArray)).data.toList = modW ++ 32 :: s.data.toList ++ [10] := by
  simp [plainB, modW]
set_option maxHeartbeats 1000000 in
theorem plain_mod_any (s : ByteArray) (w : World) (hs : s.size ≤ 140737488355328) : Calls Tryd.prog 19 #[.string s] w fun e w' => e = .returned (.string (plainB ++ s ++ (⟨#[10]⟩ : ByteArray))) ∧ w' = w := by
  unfold plainB
  obtain ⟨Q1, h1⟩ : ∃ Q1, (⟨#[109, 111, 100, 117, 108, 101, 32]⟩ : ByteArray) ++ s = Q1 := ⟨_, rfl⟩
  have hz1 : Q1.size = 7 + s.size := by rw [← h1, ByteArray.size_append]; rfl
  have e1 : ¬ (9223372036854775807 : Nat) < 7 + s.size := by omega
  have e2 : ¬ (9223372036854775807 : Nat) < Q1.size + 1 := by omega
  rw [h1]
  obtain ⟨Q2, h2⟩ : ∃ Q2, Q1 ++ (⟨#[10]⟩ : ByteArray) = Q2 := ⟨_, rfl⟩
  rw [h2]
  have HZ := hidM hz1
  clear hz1
  go_enter Tryd.func19, Tryd.ntmps19
  go_wp2
  go_ret
  exact ⟨rfl, rfl⟩
end Go.Proofs.YtgkjmmfpbcgmgaaDoor
namespace Go.Proofs.YtgkjmmfpbcgmgaaDoor
open Go.RowKit

theorem index_app (c : UInt8) (p q : List UInt8) (h : c ∉ p) : Lib.indexByte (p ++ c :: q) c = (p.length : Int) := by
  induction p with
  | nil => unfold Lib.indexByte; simp
  | cons b p ih =>
    have h1 : b ≠ c := fun e => h (by simp [e])
    have h2 := ih (fun hc => h (by simp [hc]))
    show Lib.indexByte (b :: (p ++ c :: q)) c = _
    unfold Lib.indexByte
    rw [if_neg (by simpa using h1), h2, if_neg (by simp)]
    simp
theorem index_none (c : UInt8) (l : List UInt8) (h : c ∉ l) : Lib.indexByte l c = -1 := by
  induction l with
  | nil => rfl
  | cons b l ih =>
    have h1 : b ≠ c := fun e => h (by simp [e])
    unfold Lib.indexByte
    rw [if_neg (by simpa using h1), ih (fun hc => h (by simp [hc]))]
    rfl
theorem split_at (s : ByteArray) (k : Nat) (h : k < s.size) : s.data.toList = s.data.toList.take k ++ s[k] :: s.data.toList.drop (k + 1) := by
  have h1 : k < s.data.toList.length := by simpa using h
  rw [show s[k] = s.data.toList[k] from rfl, ← List.drop_eq_getElem_cons h1, List.take_append_drop]
set_option maxHeartbeats 1600000 in
theorem find_any (s : ByteArray) (c : UInt8) (w : World) (hs : s.size ≤ 9223372036854775807) :
    Calls Tryd.prog 36 #[.string s, .int .u8 (c.toNat : Int)] w fun e w' => e = .returned (.int .i64 (Lib.indexByte s.data.toList c)) ∧ w' = w := by
  go_enter Tryd.func36, Tryd.ntmps36
  go_wp2
  go_loopw [5] (fun i wr => ∃ (k : Nat), k ≤ s.size ∧ i = .int .i64 k ∧ c ∉ s.data.toList.take k ∧ wr = w) (fun i _ => s.size - (intOf i).toNat)
  case atStart => exact ⟨0, Nat.zero_le _, rfl, by simp, rfl⟩
  case round =>
    obtain ⟨k, hk, rfl, hd, rfl⟩ := hrel
    have HD := hidM hd
    clear hd
    by_cases hlt : k < s.size
    · have kk : (k : Int) < (s.size : Int) := by omega
      by_cases he : s[k] = c
      · have HI : Hid (Lib.indexByte s.data.toList c = (k : Int)) := by
          unfold Hid
          have h := index_app c (s.data.toList.take k) (s.data.toList.drop (k + 1)) HD.out
          rw [← he] at h
          rw [← split_at s k hlt, he] at h
          rw [h, List.length_take]
          have : s.data.toList.length = s.size := by simp
          rw [Nat.min_eq_left (by omega)]
        have e1 : (s[k].toNat : Int) = (c.toNat : Int) := by rw [he]
        clear he
        go_wp2
        go_ret
        exact ⟨by rw [HI.out]; rfl, rfl⟩
      · have HX : Hid (c ∉ s.data.toList.take (k + 1)) := by
          unfold Hid
          rw [take_one s k hlt]
          intro h
          rcases List.mem_append.1 h with h | h
          · exact HD.out h
          · rw [List.mem_singleton] at h; exact he h.symm
        have e1 : ¬ (s[k].toNat : Int) = (c.toNat : Int) := fun h => he (by rw [← UInt8.toNat_inj]; omega)
        have e2 : ((s[k].toNat : Int) == (c.toNat : Int)) = false := beq_false_of_ne e1
        clear he
        go_wp2
        go_roundw
        case rel => exact ⟨k + 1, by omega, by go_num, HX.out, trivial⟩
        case measure => (show s.size - ((k : Int) + 1).toNat < s.size - ((k : Int)).toNat); omega
    · obtain rfl : k = s.size := by omega
      have HI : Hid (Lib.indexByte s.data.toList c = -1) := index_none c _ (by
        have := HD.out
        rwa [List.take_of_length_le (by rw [sl_len]; omega)] at this)
      go_wp2
      go_ret
      exact ⟨by rw [HI.out]; rfl, rfl⟩
end Go.Proofs.YtgkjmmfpbcgmgaaDoor
namespace Go.Proofs.YtgkjmmfpbcgmgaaDoor
open Go.RowKit

set_option maxHeartbeats 1000000 in
theorem ends_any (s : ByteArray) (w : World) (hs : s.size ≤ 200) : Calls Tryd.prog 37 #[.string s, .string ⟨#[46]⟩] w fun e w' => e = .returned (.bool (s.data.toList.getLast? == some 46)) ∧ w' = w := by
  by_cases h0 : s.size = 0
  · have HR : Hid ((s.data.toList.getLast? == some 46) = false) := by
      have : s.data.toList = [] := List.length_eq_zero_iff.1 (by rw [sl_len]; exact h0)
      unfold Hid; rw [this]; rfl
    have c1 : ¬ (1 : Int) ≤ (s.size : Int) := by omega
    clear h0
    generalize (s.data.toList.getLast? == some 46) = RR at *
    go_enter Tryd.func37, Tryd.ntmps37
    go_wp2
    go_ret
    exact ⟨by rw [HR.out]; rfl, rfl⟩
  · have c1 : (1 : Int) ≤ (s.size : Int) := by omega
    obtain ⟨m, hm⟩ : ∃ m, s.size = m + 1 := ⟨s.size - 1, by omega⟩
    have c2 : (s.size : Int) - 1 = (m : Int) := by omega
    have c3 : (0 : Int) ≤ (m : Int) := by omega
    have c4 : (m : Int) ≤ (s.size : Int) := by omega
    obtain ⟨X, hX⟩ : ∃ X, s.extract m s.size = X := ⟨_, rfl⟩
    have HR : Hid ((X.toList == [46]) = (s.data.toList.getLast? == some 46)) := by
      unfold Hid
      have h1 : X.toList = [s[m]'(by omega)] := by
        rw [← hX, Lib.toList_data, ext_tail, List.drop_eq_getElem_cons (by rw [sl_len]; omega), List.drop_of_length_le (by rw [sl_len]; omega)]
        rfl
      rw [h1, List.getLast?_eq_getElem?, sl_len, show s.size - 1 = m by omega, ba_at s m (by omega)]
      show ((s[m]'(by omega)) == 46 && true) = ((s[m]'(by omega)) == 46)
      rw [Bool.and_true]
    have HM := hidM hm
    clear hm h0
    generalize (s.data.toList.getLast? == some 46) = RR at *
    go_enter Tryd.func37, Tryd.ntmps37
    go_wp2
    go_ret
    exact ⟨by rw [← HR.out]; rfl, rfl⟩
def barR : List UInt8 := [34, 39, 42, 60, 62, 63, 124, 92, 58, 59]
theorem bar_two (c : UInt8) : barL.contains c = (barR.contains c || c == 96) := by
  unfold barL barR
  simp only [List.contains_cons, List.contains_nil, Bool.or_false]
  cases (c == 34) <;> cases (c == 39) <;> cases (c == 42) <;> cases (c == 60) <;> cases (c == 62) <;> cases (c == 63) <;> cases (c == 96) <;> simp
theorem getL (s : ByteArray) (k : Nat) (h : k < s.size) : s[k] ∈ s.data.toList := List.mem_of_getElem? (ba_at s k h)
set_option maxHeartbeats 2000000 in
set_option maxRecDepth 100000 in
theorem rfilePath_any (s : ByteArray) (w : World) :
    Calls Tryd.prog 18 #[.string s] w fun e w' => e = .returned (.bool (fileL s.data.toList)) ∧ Below w.heap.size w w' := by
  have HC := hidM (rclean_any s w)
  rw [clean_eq] at HC
  have HR : Hid (fileL s.data.toList = (cleanL s.data.toList && !(s.data.toList.any fun c => barL.contains c) && !stopL s.data.toList)) := rfl
  cases h0 : cleanL s.data.toList with
  | false =>
    rw [h0] at HC HR
    clear h0
    go_enter Tryd.func18, Tryd.ntmps18
    go_wp2_with fail
    refine HC.out.mono ?_
    rintro _ w1 ⟨rfl, hb⟩
    go_wp2
    go_ret
    exact ⟨by rw [HR.out]; rfl, hb⟩
  | true =>
    have hs : s.size ≤ 200 := by
      unfold cleanL at h0
      simp only [Bool.and_eq_true, decide_eq_true_eq] at h0
      rw [sl_len] at h0; exact h0.1.1
    rw [h0] at HC HR
    have HFI : Hid (∀ (k : Nat) (hk : k < s.size) V, Calls Tryd.prog 36 #[.string ⟨#[34, 39, 42, 60, 62, 63, 124, 92, 58, 59]⟩, .int .u8 ((s[k]'hk).toNat : Int)] V fun e w' => e = .returned (.int .i64 (Lib.indexByte barR (s[k]'hk))) ∧ w' = V) := fun k hk V => find_any ⟨#[34, 39, 42, 60, 62, 63, 124, 92, 58, 59]⟩ (s[k]'hk) V (by decide)
    have HRP := hidM (fun V => rparts_any s V (by omega))
    have HST : Hid (stopL s.data.toList = (rpB s s.size).any fun b => b.data.toList.getLast? == some 46) := by
      unfold Hid
      rw [rpB_all, List.any_map]; rfl
    have HPZ := hidM (rpB_size s s.size)
    have hpl := (rpB_len s s.size).1
    have hpl0 := (rpB_len s s.size).2
    clear h0
    generalize rpB s s.size = ps at *
    go_enter Tryd.func18, Tryd.ntmps18
    go_wp2_with fail
    refine HC.out.mono ?_
    rintro _ w1 ⟨rfl, hb⟩
    have HB1 := hidM hb
    clear hb HC
    go_wp2
    go_loopw [3, 9, 10, 11, 12, 13, 14, 15, 16, 17, 18, 19, 20, 21, 22, 23, 24, 25] (fun v3 _ _ _ _ _ _ _ _ _ _ _ _ _ _ _ _ _ wr => ∃ k : Nat, k ≤ s.size ∧ v3 = .int .i64 (k : Int) ∧ ((s.data.toList.take k).any fun c => barL.contains c) = false ∧ wr = w1) (fun v3 _ _ _ _ _ _ _ _ _ _ _ _ _ _ _ _ _ _ => s.size - (intOf v3).toNat)
    case atStart => exact ⟨0, Nat.zero_le _, rfl, rfl, rfl⟩
    case round =>
      obtain ⟨k, hk, rfl, hd, hw⟩ := hrel
      have HW := hidM hw
      have HD := hidM hd
      clear hd hw
      by_cases hlt : k < s.size
      · have kk : (k : Int) < (s.size : Int) := by omega
        have HF := hidM (HFI.out k hlt wr)
        have HI : Hid (decide (0 ≤ Lib.indexByte barR s[k]) = barR.contains s[k]) := idx_cont _ _
        have HBT : Hid (barL.contains s[k] = (barR.contains s[k] || s[k] == 96)) := bar_two _
        have HTK : Hid (((s.data.toList.take (k + 1)).any fun c => barL.contains c) = barL.contains s[k]) := by
          unfold Hid
          rw [take_one s k hlt, List.any_append, HD.out]
          simp
        have HNO : Hid (barL.contains s[k] = true → fileL s.data.toList = false) := by
          intro h
          rw [HR.out, show (s.data.toList.any fun c => barL.contains c) = true from List.any_eq_true.2 ⟨_, getL s k hlt, h⟩]
          rfl
        have h96 : ((((s[k].toNat : Nat) : Int)) == 96) = (s[k] == 96) := by
          rw [Bool.eq_iff_iff, beq_iff_eq, beq_iff_eq]
          constructor
          · intro h; exact UInt8.toNat_inj.1 (by have : (96 : UInt8).toNat = 96 := rfl; omega)
          · intro h; rw [h]; rfl
        generalize Lib.indexByte barR s[k] = ix at *
        generalize barR.contains s[k] = C1 at *
        generalize (s[k] == 96) = C2 at *
        generalize barL.contains s[k] = C3 at *
        have hix := HI.out
        cases C1 with
        | true =>
          have hC3 : C3 = true := by rw [HBT.out]; rfl
          have HN2 := hidM (HNO.out hC3)
          clear HNO HBT HTK hC3 h96
          go_wp2_with (go_at_call 36; with_reducible refine HF.out.mono ?_; rintro _ _ ⟨rfl, rfl⟩)
          go_ret
          exact ⟨by rw [HN2.out]; rfl, by have := HW.out; subst this; exact HB1.out⟩
        | false =>
          cases C2 with
          | true =>
            have hC3 : C3 = true := by rw [HBT.out]; rfl
            have HN2 := hidM (HNO.out hC3)
            clear HNO HBT HTK hC3
            go_wp2_with (go_at_call 36; with_reducible refine HF.out.mono ?_; rintro _ _ ⟨rfl, rfl⟩)
            go_ret
            exact ⟨by rw [HN2.out]; rfl, by have := HW.out; subst this; exact HB1.out⟩
          | false =>
            have hC3 : C3 = false := by rw [HBT.out]; rfl
            have HN3 : Hid (((s.data.toList.take (k + 1)).any fun c => barL.contains c) = false) := by unfold Hid; rw [HTK.out, hC3]
            clear HNO HBT HTK hC3
            go_wp2_with (go_at_call 36; with_reducible refine HF.out.mono ?_; rintro _ _ ⟨rfl, rfl⟩)
            go_roundw
            case rel => exact ⟨k + 1, by omega, by go_num, HN3.out, HW.out⟩
            case measure => (show s.size - ((k : Int) + 1).toNat < s.size - ((k : Int)).toNat); omega
      · have kk : ¬ (k : Int) < (s.size : Int) := by omega
        have HAL : Hid ((s.data.toList.any fun c => barL.contains c) = false) := by
          have := HD.out
          rwa [List.take_of_length_le (by rw [sl_len]; omega)] at this
        have HR2 : Hid (fileL s.data.toList = !(ps.any fun b => b.data.toList.getLast? == some 46)) := by unfold Hid; rw [HR.out, HAL.out, HST.out]; rfl
        have HB1w : Hid (Below w.heap.size w wr) := by rw [HW.out]; exact HB1.out
        clear HR HAL HST HD HW HB1 HFI
        go_wp2_with fail
        refine (HRP.out _).mono ?_
        rintro _ w2 ⟨⟨v2, hown, rfl⟩, hb2⟩
        obtain ⟨a, c, rfl, hsh⟩ := hown.shape
        obtain ⟨g, rfl, _, hg, hat⟩ := hsh (by intro e; rw [e] at hpl0; simp at hpl0)
        have HAT := hidM hat
        have HB2 := hidM (HB1w.out.trans (hb2.mono HB1w.out.size))
        clear hown hsh hat hb2 HRP
        obtain ⟨n, hn⟩ : ∃ n, n = ps.length := ⟨_, rfl⟩
        rw [← hn] at hpl ⊢
        have HN := hidM hn
        clear hn
        go_wp2
        go_loopw [5, 29, 30, 31, 32, 33, 34, 35] (fun _ v _ _ _ _ _ _ wr => ∃ k : Nat, k ≤ n ∧ v = .int .i64 (k : Int) ∧ ((ps.take k).any fun b => b.data.toList.getLast? == some 46) = false ∧ wr = w2) (fun _ v _ _ _ _ _ _ _ => n - (intOf v).toNat)
        case atStart => exact ⟨0, Nat.zero_le _, rfl, rfl, rfl⟩
        case round =>
          obtain ⟨k, hk, rfl, hd, hw⟩ := hrel
          have HW := hidM hw
          have HD := hidM hd
          clear hd
          subst hw
          by_cases hlt : k < n
          · have kk : (k : Int) < (n : Int) := by omega
            have hkp : k < ps.length := by rw [← HN.out]; exact hlt
            have hc := HAT.out k hkp
            have HE := hidM (ends_any ps[k] wr (by have := HPZ.out ps[k] (List.getElem_mem _); omega))
            have HT : Hid (((ps.take (k + 1)).any fun b => b.data.toList.getLast? == some 46) = (ps[k].data.toList.getLast? == some 46)) := by
              unfold Hid
              rw [List.take_succ_eq_append_getElem hkp, List.any_append, HD.out]
              simp
            have HNO : Hid ((ps[k].data.toList.getLast? == some 46) = true → fileL s.data.toList = false) := by
              intro h
              rw [HR2.out, show (ps.any fun b => b.data.toList.getLast? == some 46) = true from List.any_eq_true.2 ⟨_, List.getElem_mem hkp, h⟩]
              rfl
            generalize (ps[k].data.toList.getLast? == some 46) = B at *
            generalize ps[k] = X at *
            cases B with
            | true =>
              have HN2 := hidM (HNO.out rfl)
              clear HNO HT
              go_wp2_with (go_at_call 37; with_reducible refine HE.out.mono ?_; rintro _ _ ⟨rfl, rfl⟩)
              go_ret
              exact ⟨by rw [HN2.out]; rfl, HB2.out⟩
            | false =>
              clear HNO
              go_wp2_with (go_at_call 37; with_reducible refine HE.out.mono ?_; rintro _ _ ⟨rfl, rfl⟩)
              go_roundw
              case rel => exact ⟨k + 1, by omega, by go_num, HT.out, trivial⟩
              case measure => (show n - ((k : Int) + 1).toNat < n - ((k : Int)).toNat); omega
          · have HF : Hid (fileL s.data.toList = true) := by
              have h := HD.out
              rw [List.take_of_length_le (by rw [← HN.out]; omega)] at h
              unfold Hid; rw [HR2.out, h]; rfl
            have kk : ¬ (k : Int) < (n : Int) := by omega
            go_wp2
            go_ret
            exact ⟨by rw [HF.out]; rfl, HB2.out⟩
end Go.Proofs.YtgkjmmfpbcgmgaaDoor
