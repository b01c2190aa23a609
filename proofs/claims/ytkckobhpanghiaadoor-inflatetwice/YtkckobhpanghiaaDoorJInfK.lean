/-
  Walks of inflate: Inflate.
  What two streams say that the document fixes.
-/
import Derived.Test.YtkckobhpanghiaaDoorInfI
import Derived.Test.YtkckobhpanghiaaDoorJInfR
namespace Go.Proofs.YtkckobhpanghiaaDoor
open Go.RowKit

set_option maxHeartbeats 400000 in
set_option maxRecDepth 100000 in
theorem newR_eq (s : ByteArray) (A : Nat) (w : World) (hA : A ≤ s.size) :
    Calls Tryd.prog 29 #[.string s, .int .i64 (A : Int)] w fun e w' => e = .returned (.pointer (some ⟨w.heap.size, 0, none⟩)) ∧ w' = w.alloc (.cells #[.string (s.extract A s.size), .int .i64 0] 75) := by
  have e1 : (if (A : Int) < 0 then 0 else (A : Int)) = (A : Int) := if_neg (by omega)
  have e2 : (if (s.size : Int) < (A : Int) then (s.size : Int) else (A : Int)) = (A : Int) := if_neg (by omega)
  go_enter Tryd.func29, Tryd.ntmps29
  go_wp2
  go_ret
  exact ⟨rfl, rfl⟩
/-- what Inflate says of a text: bytes, how many bytes the stream has, the error -/
def InfQ (l : List UInt8) (a m : Int) (r : List UInt8 × Nat × Nat) : Prop :=
  ((a < 0 ∨ (l.length : Int) < a ∨ m < 0 ∨ 65536 < m) ∧ r = ([], 0, 1)) ∨
  (∃ A M : Nat, a = A ∧ m = M ∧ A ≤ l.length ∧ M ≤ 65536 ∧ ((∃ n, n ≠ 0 ∧ Run (l.drop A) M (.blk false) 0 [] (.bad n) ∧ r = ([], 0, n)) ∨ ∃ t o, Run (l.drop A) M (.blk false) 0 [] (.good t o) ∧ t ≤ 8 * (l.length - A) ∧ o.length ≤ M ∧ r = (o, (t + 7) / 8, 0)))
/-- Inflate's three results -/
def InfPost (s : ByteArray) (a m : Int) (e : Ending) : Prop :=
  ∃ r, InfQ s.data.toList a m r ∧ e = .returned (.tuple #[.string ⟨r.1.toArray⟩, .int .i64 (r.2.1 : Int), .int .i64 (r.2.2 : Int)])
theorem drop_extract (s : ByteArray) (A : Nat) : (s.extract A s.size).data.toList = s.data.toList.drop A := by
  rw [extract_list, List.take_of_length_le]
  rw [List.length_drop, Array.length_toList]
  exact Nat.le_refl _
set_option maxHeartbeats 2000000 in
set_option maxRecDepth 100000 in
theorem inflate_any (s : ByteArray) (a m : Int) (w : World) (hs : s.size ≤ 1000000) (hw : 0 < w.heap.size) (hG : ∀ k, k < 19 → w.cell? ⟨0, k, none⟩ = some (.int .i64 (plK k : Int))) :
    Calls Tryd.prog 15 #[.string s, .int .i64 a, .int .i64 m] w fun e w' => InfPost s a m e ∧ Below w.heap.size w w' := by
  have hlen : s.data.toList.length = s.size := Array.length_toList
  have HLEN := hidM hlen
  have HG := hidM hG
  clear hG hlen
  by_cases hbad : a < 0 ∨ (s.size : Int) < a ∨ m < 0 ∨ 65536 < m
  · have HQ : Hid (InfQ s.data.toList a m ([], 0, 1)) := .inl ⟨by rw [HLEN.out]; exact hbad, rfl⟩
    have hb2 : (decide (a < 0) || (decide ((s.size : Int) < a) || (decide (m < 0) || decide (65536 < m)))) = true := by simpa using hbad
    go_enter Tryd.func15, Tryd.ntmps15
    by_cases h1 : a < 0
    · go_wp2
      go_ret3
      exact ⟨⟨_, HQ.out, rfl⟩, Below.refl _ _⟩
    · by_cases h2 : (s.size : Int) < a
      · go_wp2
        go_ret3
        exact ⟨⟨_, HQ.out, rfl⟩, Below.refl _ _⟩
      · by_cases h3 : m < 0
        · go_wp2
          go_ret3
          exact ⟨⟨_, HQ.out, rfl⟩, Below.refl _ _⟩
        · have h4 : 65536 < m := by omega
          go_wp2
          go_ret3
          exact ⟨⟨_, HQ.out, rfl⟩, Below.refl _ _⟩
  · obtain ⟨A, rfl⟩ : ∃ A : Nat, a = A := ⟨a.toNat, by omega⟩
    obtain ⟨M, rfl⟩ : ∃ M : Nat, m = M := ⟨m.toNat, by omega⟩
    have h1 : A ≤ s.size := by omega
    have h2 : M ≤ 65536 := by omega
    have g1 : ¬ (A : Int) < 0 := by omega
    have g2 : ¬ (s.size : Int) < (A : Int) := by omega
    have g3 : ¬ (M : Int) < 0 := by omega
    have g4 : ¬ (65536 : Int) < (M : Int) := by omega
    clear hbad
    have hXs : (s.extract A s.size).size = s.size - A := by rw [ByteArray.size_extract]; omega
    have HXL := hidM (drop_extract s A)
    have HNEW := hidM (newR_eq s A w h1)
    go_enter Tryd.func15, Tryd.ntmps15
    go_wp2_with fail
    refine HNEW.out.mono ?_
    rintro _ w1 ⟨rfl, rfl⟩
    clear HNEW
    generalize s.extract A s.size = X at *
    have HS0 : Hid (StS ((w.alloc (.cells #[.string X, .int .i64 0] 75)).alloc (.cells #[.pointer (some ⟨w.heap.size, 0, none⟩), .slice none 0 0, .int .i64 (M : Int), .bool false, .pointer none, .pointer none, .pointer none, .pointer none] 52)) w.heap.size X 0 M false (.slice none 0 0) [] (.pointer none) (.pointer none) (.pointer none) (.pointer none)) :=
      ⟨(Below.heap_alloc _ _ w.heap.size (by simp)).trans (heap_alloc_new w _), heap_alloc2_new w _ _, ⟨rfl, .inl ⟨rfl, rfl⟩⟩⟩
    have HB0 : Hid (Below w.heap.size w ((w.alloc (.cells #[.string X, .int .i64 0] 75)).alloc (.cells #[.pointer (some ⟨w.heap.size, 0, none⟩), .slice none 0 0, .int .i64 (M : Int), .bool false, .pointer none, .pointer none, .pointer none, .pointer none] 52))) :=
      ((Below.refl _ w).alloc (Nat.le_refl _) _).alloc (by simp) _
    go_wp2_with fail
    generalize ((w.alloc (.cells #[.string X, .int .i64 0] 75)).alloc (.cells #[.pointer (some ⟨w.heap.size, 0, none⟩), .slice none 0 0, .int .i64 (M : Int), .bool false, .pointer none, .pointer none, .pointer none, .pointer none] 52)) = w1 at *
    refine (sreadAll_any w.heap.size X M w1 _ _ _ HS0.out hw (by omega) h2 (fun k hk => (World.cell?_of_block (w := w) (a := ⟨0, k, none⟩) (HB0.out.block 0 hw)).trans (HG.out k hk))).mono ?_
    intro e w2 hp
    clear HS0
    rcases hp with ⟨n, hn0, hrun, rfl, hb⟩ | ⟨t, o, v, p1, p2, p3, p4, hrun, ht, hol, rfl, hst, hb⟩
    · have HB2 : Hid (Below w.heap.size w w2) := HB0.out.trans hb
      have HQ : Hid (InfQ s.data.toList (A : Int) (M : Int) ([], 0, n)) := .inr ⟨A, M, rfl, rfl, by rw [HLEN.out]; exact h1, h2, .inl ⟨n, hn0, by rw [← HXL.out]; exact hrun, rfl⟩⟩
      have e0 : ((n : Int) == 0) = false := by simp; omega
      clear hrun hb
      go_wp2
      go_ret3
      exact ⟨⟨_, HQ.out, rfl⟩, HB2.out⟩
    · have HB2 : Hid (Below w.heap.size w w2) := HB0.out.trans hb
      have HQ : Hid (InfQ s.data.toList (A : Int) (M : Int) (o, (t + 7) / 8, 0)) := .inr ⟨A, M, rfl, rfl, by rw [HLEN.out]; exact h1, h2, .inr ⟨t, o, by rw [← HXL.out]; exact hrun, by rw [HLEN.out, ← hXs]; exact ht, hol, rfl⟩⟩
      have c0 := hst.box.c0
      have c1 := hst.box.c1
      have hcv : ∀ k, (convert 34 9 v).run Tryd.prog (w2.drewN k) = .ok (.string ⟨o.toArray⟩) (w2.drewN k) := fun k => conv_own (w := w2.drewN k) hst.own
      have HU := hidM (fun V (hV : Hid (DrewOf w2 V)) => (by obtain ⟨k, rfl⟩ := hV; exact used_any w.heap.size X t (w2.drewN k) hst.rd (by omega) : Calls Tryd.prog 31 #[.pointer (some ⟨w.heap.size, 0, none⟩)] V fun e w' => e = .returned (.int .i64 (((t + 7) / 8 : Nat) : Int)) ∧ w' = V))
      have HD := DrewOf.refl w2
      obtain ⟨U, hU⟩ : ∃ U, U = (t + 7) / 8 := ⟨_, rfl⟩
      rw [← hU] at HQ HU
      obtain ⟨O, hO⟩ : ∃ O : ByteArray, O = ⟨o.toArray⟩ := ⟨_, rfl⟩
      rw [← hO] at hcv
      have HO := hidM hO
      clear hrun hb hst hol ht hU hO
      go_wp2
      go_quiet ((go_at_call 31; with_reducible exact Calls.quiet_of_same (HU.out _ (by repeat (first | exact HD | apply DrewOf.drew | apply DrewOf.drewN)))))

      go_wp2
      go_ret3
      exact ⟨⟨_, HQ.out, by rw [HO.out]; rfl⟩, HB2.out.trans (below_drewN (Below.refl _ _) _)⟩
end Go.Proofs.YtkckobhpanghiaaDoor
namespace Go.Proofs.YtkckobhpanghiaaDoor

theorem awake_a : Run [75, 4, 0] 9 (.blk false) 0 [] (.good 18 [97]) := by
  have h1 : SymR fixLit [75, 4, 0] 3 (.inr (97, 11)) := .hit 97 ⟨by decide, by decide, by decide, by decide +kernel⟩
  have h2 : SymR fixLit [75, 4, 0] 11 (.inr (256, 18)) := .hit 256 ⟨by decide, by decide, by decide, by decide +kernel⟩
  exact .fx 0 [] 3 _ (by decide) (by decide) (.syPut true fixLit fixDist 3 [] 97 11 _ h1 (by decide) (by decide) (.syEnd true fixLit fixDist 11 [97] 18 _ h2 (.fin 18 [97])))
theorem awake_7 : Run [7] 9 (.blk false) 0 [] (.bad 3) := .kind3 0 [] 7 (by decide) (by decide)
end Go.Proofs.YtkckobhpanghiaaDoor
