/-
  Walks: functions that make bytes: noughts, Big, Little, and the document's Little, Turn, Big.
-/
import Derived.Test.YtbodjopdhciaeaaDoorWalkA
namespace Go.Proofs.YtbodjopdhciaeaaDoor
open Go.RowKit

theorem hidM {p : Prop} (h : p) : Hid p := h

/-- Bytes as the cells of a row. -/
def bytesV (l : List UInt8) : List Value := l.map fun c => .int .u8 (c.toNat : Int)
theorem bytesV_len (l : List UInt8) : (bytesV l).length = l.length := by simp [bytesV]
theorem bytesV_app (l m : List UInt8) : bytesV (l ++ m) = bytesV l ++ bytesV m := by simp [bytesV]
theorem bytesV_rep (n : Nat) : bytesV (List.replicate n 0) = List.replicate n (.int .u8 0) := by simp [bytesV]
theorem bytesV_at (l : List UInt8) (j : Nat) (h : j < l.length) : (bytesV l)[j]? = some (.int .u8 (l[j].toNat : Int)) := by simp [bytesV, h]
theorem bytesV_set (l : List UInt8) (j : Nat) (c : UInt8) : (bytesV l).set j (.int .u8 (c.toNat : Int)) = bytesV (l.set j c) := by simp [bytesV, List.map_set]

/-- The value v owns just the bytes l, in memory from 'base' on. -/
def OwnB (w : World) (base : Nat) (v : Value) (l : List UInt8) : Prop := w.ownsRow base 5 1 v l.length (bytesV l)

theorem conv_own {w : World} {base : Nat} {v : Value} {l : List UInt8} (h : OwnB w base v l) :
    (convert 44 9 v).run Tryd.prog w = .ok (.string ⟨l.toArray⟩) w := by
  rcases h.2 with ⟨rfl, hn⟩ | ⟨g, cap, cur, rfl, hb, hg, hnc, hcm, hcs, htake⟩
  · have : l = [] := List.eq_nil_of_length_eq_zero hn
    subst this
    rw [run_convert_bytes_string w 44 9 5 none 0 0 Tryd.underlying44 Tryd.underlying5 Tryd.underlying9]
    rfl
  · refine run_convert_bytes_back w 44 9 5 _ cap l Tryd.underlying44 Tryd.underlying5 Tryd.underlying9 ?_
    intro j hj
    have := World.ownsRow.cells (g := g) h rfl j _ (bytesV_at l j hj)
    exact this

theorem u8_wrap (x : Nat) : IntKind.u8.wrap (x : Int) = ((UInt8.ofNat (x % 256)).toNat : Int) := by
  rw [byte_of, IntKind.wrap_u8']; omega

set_option maxHeartbeats 400000 in
theorem noughts_some (n : Nat) (w : World) (h0 : 1 ≤ n) (h1 : n ≤ 2147483647) :
    Calls Tryd.prog 38 #[.int .i64 n] w fun e w' => e = .returned (.slice (some ⟨w.heap.size, 0, none⟩) n n) ∧ w'.ownsRow w.heap.size 5 1 (.slice (some ⟨w.heap.size, 0, none⟩) n n) n (bytesV (List.replicate n 0)) ∧ Below w.heap.size w w' ∧ w.heap.size < w'.heap.size := by
  obtain ⟨i0, hi, hz0, hz1, hz2⟩ := info_parts Tryd.info5
  go_enter Tryd.func38, Tryd.ntmps38
  go_wp2_with (at_make; refine wpList_make_full _ rfl _ _ 44 rfl w.heap.size 5 i0 (.int .u8 0) 1 Tryd.underlying44 hi hz0 hz1 .i64 .i64 _ _ n rfl rfl rfl rfl ?c1 ?c2 ?c3 ?_)
  case c1 => rw [hz2]; omega
  case c2 => unfold maxLen; omega
  case c3 => exact Nat.le_refl _
  intro w1 hown hgrow
  have hlt := (hown.lt w.heap.size rfl).2
  have hown2 : w1.ownsRow w.heap.size 5 1 (.slice (some ⟨w.heap.size, 0, none⟩) n n) n (bytesV (List.replicate n 0)) := by
    rw [bytesV_rep, ← toList_madeCells_one]
    simpa using hown
  have hbel : Below w.heap.size w w1 := (Below.refl _ _).grown hgrow (Nat.le_refl _) (by intro k hk; cases hk)
  clear hown hgrow
  go_wp2
  go_ret
  exact ⟨rfl, hown2, hbel, hlt⟩

set_option maxHeartbeats 400000 in
theorem noughts_none (n : Int) (w : World) (h0 : n < 1) :
    Calls Tryd.prog 38 #[.int .i64 n] w fun e w' => e = .returned (.slice none 0 0) ∧ w' = w := by
  go_enter Tryd.func38, Tryd.ntmps38
  go_wp2
  go_ret
  exact ⟨rfl, rfl⟩

/-- What one store does to the row, from the end. -/
theorem big_store {w : World} {B g n k : Nat} {v : Value} (x : Nat) (T : List UInt8) (hv : v = .slice (some ⟨g, 0, none⟩) n n)
    (hown : w.ownsRow B 5 1 v n (bytesV (List.replicate (k + 1) 0 ++ T))) :
    (w.setCell ⟨g, k, none⟩ (.int .u8 (IntKind.u8.wrap (x : Int)))).ownsRow B 5 1 v n (bytesV (List.replicate k 0 ++ (UInt8.ofNat (x % 256) :: T))) := by
  subst hv
  have := (hown.stored k (.int .u8 (IntKind.u8.wrap (x : Int)))).1
  rw [u8_wrap, bytesV_set, set_last] at this
  rw [u8_wrap]
  exact this

set_option maxHeartbeats 400000 in
theorem big_any (x n : Nat) (w : World) (h0 : 1 ≤ n) (h1 : n ≤ 2147483647) :
    Calls Tryd.prog 27 #[.int .u64 x, .int .i64 n] w fun e w' => e = .returned (.string ⟨(bigL x n).toArray⟩) ∧ Below w.heap.size w w' := by
  go_enter Tryd.func27, Tryd.ntmps27
  go_wp2_with fail
  refine (noughts_some n _ h0 h1).mono ?_
  rintro e w1 ⟨rfl, hown, hbel, hlt⟩
  generalize hg : w.heap.size = B at *
  have HG := hidM hg
  clear hg
  go_wp2_with fail
  go_loopw [0, 6] (fun xv i wr => ∃ (k y : Nat) (T : List UInt8), k + T.length = n ∧ i = .int .i64 ((k : Int) - 1) ∧ xv = .int .u64 y ∧ bigL x n = bigL y k ++ T ∧ wr.ownsRow B 5 1 (.slice (some ⟨B, 0, none⟩) n n) n (bytesV (List.replicate k 0 ++ T)) ∧ Below B w wr)
    (fun _ i _ => (intOf i + 1).toNat)
  case atStart => exact ⟨n, x, [], by simp, by go_num, rfl, by simp, by simpa using hown, hbel⟩
  case round =>
    obtain ⟨k, y, T, hk, rfl, rfl, hT, hownr, hbr⟩ := hrel
    clear hown hbel
    have HT : Hid (bigL x n = bigL y k ++ T) := hT
    clear hT
    rcases k with _ | k
    · have hl : T.length = n := by omega
      have hconv : (convert 44 9 (.slice (some ⟨B, 0, none⟩) n n)).run Tryd.prog wr = .ok (.string ⟨(bigL x n).toArray⟩) wr := by
        have ho : OwnB wr B (.slice (some ⟨B, 0, none⟩) n n) T := by unfold OwnB; rw [hl]; simpa using hownr
        rw [show bigL x n = T by rw [HT.out]; rfl]
        exact conv_own ho
      clear hownr HT
      go_wp2
      go_ret
      exact ⟨rfl, by rw [HG.out]; exact hbr⟩
    · have e1 : ((k + 1 : Nat) : Int) - 1 = (k : Int) := by omega
      simp only [e1]
      clear e1
      by_cases hy : y = 0
      · subst hy
        have hconv : (convert 44 9 (.slice (some ⟨B, 0, none⟩) n n)).run Tryd.prog wr = .ok (.string ⟨(bigL x n).toArray⟩) wr := by
          have hl : (List.replicate (k + 1) (0 : UInt8) ++ T).length = n := by simp; omega
          have ho : OwnB wr B (.slice (some ⟨B, 0, none⟩) n n) (List.replicate (k + 1) 0 ++ T) := by unfold OwnB; rw [hl]; exact hownr
          rw [show bigL x n = List.replicate (k + 1) 0 ++ T by rw [HT.out, bigL_zero]]
          exact conv_own ho
        clear hownr HT
        go_wp2
        go_ret
        exact ⟨rfl, by rw [HG.out]; exact hbr⟩
      · have hkn : k < n := by omega
        have hne : ((y : Int) != 0) = true := by simp; omega
        have hcell : ∃ v0, wr.cell? ⟨B, k, none⟩ = some v0 := by
          have := hownr.cellAt k (by omega)
          rw [this]
          have hl : k < (bytesV (List.replicate (k + 1) 0 ++ T)).length := by simp [bytesV]; omega
          exact ⟨_, List.getElem?_eq_getElem hl⟩
        obtain ⟨v0, hc0⟩ := hcell
        have hfz := hownr.frozenAt k
        have hst := big_store y T rfl hownr
        have hbs : Below B w (wr.setCell ⟨B, k, none⟩ (.int .u8 (IntKind.u8.wrap (y : Int)))) := hbr.setCell (Nat.le_refl _) _
        have HST := hidM hst
        have HBS := hidM hbs
        clear hst hbs hownr hbr
        go_wp2
        go_roundw
        case rel => exact ⟨k, y / 256, _, by simp; omega, by go_num, val_int (by omega), by rw [HT.out, bigL_succ]; simp, HST.out, HBS.out⟩
        case measure => simp [intOf]

set_option maxHeartbeats 400000 in
theorem big_none (x : Nat) (n : Int) (w : World) (h0 : n < 1) :
    Calls Tryd.prog 27 #[.int .u64 x, .int .i64 n] w fun e w' => e = .returned (.string ⟨([] : List UInt8).toArray⟩) ∧ w' = w := by
  have hconv : (convert 44 9 (.slice none 0 0)).run Tryd.prog w = .ok (.string ⟨([] : List UInt8).toArray⟩) w := conv_own (base := 0) (World.ownsRow_nil w 0 5 1)
  go_enter Tryd.func27, Tryd.ntmps27
  go_wp2_with fail
  refine (noughts_none n _ h0).mono ?_
  rintro e w1 ⟨rfl, rfl⟩
  go_wp2
  refine wp_loop_rounds 1 ?_
  rw [rounds_succ]
  go_wp2
  go_ret
  exact ⟨rfl, rfl⟩

/-- What one store does to the row, from the front. -/
theorem little_store {w : World} {B g n k : Nat} {v : Value} (x : Nat) (P : List UInt8) (hv : v = .slice (some ⟨g, 0, none⟩) n n)
    (hown : w.ownsRow B 5 1 v n (bytesV (P ++ List.replicate (k + 1) 0))) :
    (w.setCell ⟨g, P.length, none⟩ (.int .u8 (IntKind.u8.wrap (x : Int)))).ownsRow B 5 1 v n (bytesV ((P ++ [UInt8.ofNat (x % 256)]) ++ List.replicate k 0)) := by
  subst hv
  have := (hown.stored P.length (.int .u8 (IntKind.u8.wrap (x : Int)))).1
  rw [u8_wrap, bytesV_set, set_first] at this
  rw [u8_wrap]
  exact this

set_option maxHeartbeats 400000 in
theorem little_any (x n : Nat) (w : World) (h0 : 1 ≤ n) (h1 : n ≤ 2147483647) :
    Calls Tryd.prog 29 #[.int .u64 x, .int .i64 n] w fun e w' => e = .returned (.string ⟨(littleL x n).toArray⟩) ∧ Below w.heap.size w w' := by
  go_enter Tryd.func29, Tryd.ntmps29
  go_wp2_with fail
  refine (noughts_some n _ h0 h1).mono ?_
  rintro e w1 ⟨rfl, hown, hbel, hlt⟩
  generalize hg : w.heap.size = B at *
  have HG := hidM hg
  clear hg
  go_wp2_with fail
  go_loopw [0, 6] (fun xv i wr => ∃ (k y : Nat) (P : List UInt8), k + P.length = n ∧ i = .int .i64 (P.length : Nat) ∧ xv = .int .u64 y ∧ littleL x n = P ++ littleL y k ∧ wr.ownsRow B 5 1 (.slice (some ⟨B, 0, none⟩) n n) n (bytesV (P ++ List.replicate k 0)) ∧ Below B w wr)
    (fun _ i _ => n - (intOf i).toNat)
  case atStart => exact ⟨n, x, [], by simp, rfl, rfl, by simp, by simpa using hown, hbel⟩
  case round =>
    obtain ⟨k, y, P, hk, rfl, rfl, hT, hownr, hbr⟩ := hrel
    clear hown hbel
    have HT : Hid (littleL x n = P ++ littleL y k) := hT
    clear hT
    rcases k with _ | k
    · have hl : P.length = n := by omega
      have hconv : (convert 44 9 (.slice (some ⟨B, 0, none⟩) n n)).run Tryd.prog wr = .ok (.string ⟨(littleL x n).toArray⟩) wr := by
        have ho : OwnB wr B (.slice (some ⟨B, 0, none⟩) n n) P := by unfold OwnB; rw [hl]; simpa using hownr
        rw [show littleL x n = P by rw [HT.out]; simp [littleL]]
        exact conv_own ho
      have hge : ¬ P.length < n := by omega
      generalize P.length = p at *
      clear hownr HT hl
      go_wp2
      go_ret
      exact ⟨rfl, by rw [HG.out]; exact hbr⟩
    · by_cases hy : y = 0
      · subst hy
        have hconv : (convert 44 9 (.slice (some ⟨B, 0, none⟩) n n)).run Tryd.prog wr = .ok (.string ⟨(littleL x n).toArray⟩) wr := by
          have hl : (P ++ List.replicate (k + 1) (0 : UInt8)).length = n := by simp; omega
          have ho : OwnB wr B (.slice (some ⟨B, 0, none⟩) n n) (P ++ List.replicate (k + 1) 0) := by unfold OwnB; rw [hl]; exact hownr
          rw [show littleL x n = P ++ List.replicate (k + 1) 0 by rw [HT.out, littleL_zero]]
          exact conv_own ho
        generalize P.length = p at *
        have hlt : p < n := by omega
        clear hownr HT
        go_wp2
        go_ret
        exact ⟨rfl, by rw [HG.out]; exact hbr⟩
      · have hne : ((y : Int) != 0) = true := by simp; omega
        have hcell : ∃ v0, wr.cell? ⟨B, P.length, none⟩ = some v0 := by
          have := hownr.cellAt P.length (by omega)
          rw [this]
          have hl : P.length < (bytesV (P ++ List.replicate (k + 1) 0)).length := by simp [bytesV]
          exact ⟨_, List.getElem?_eq_getElem hl⟩
        obtain ⟨v0, hc0⟩ := hcell
        have hfz := hownr.frozenAt P.length
        have HST := hidM (little_store y P rfl hownr)
        have HBS : Hid (Below B w (wr.setCell ⟨B, P.length, none⟩ (.int .u8 (IntKind.u8.wrap (y : Int))))) := hbr.setCell (Nat.le_refl _) _
        have HP : ∃ p, p = P.length := ⟨_, rfl⟩
        obtain ⟨p, hp⟩ := HP
        rw [← hp] at hfz hc0 hk HST HBS
        have HPP := hidM hp
        rw [← hp]
        clear hownr hbr hp
        have hlt : p < n := by omega
        go_wp2
        go_roundw
        case rel => exact ⟨k, y / 256, P ++ [UInt8.ofNat (y % 256)], by simp; rw [← HPP.out]; omega, val_int (by simp; rw [HPP.out]), val_int (by omega), by rw [HT.out]; simp [littleL], HST.out, HBS.out⟩
        case measure => simp [intOf]; omega

set_option maxHeartbeats 400000 in
theorem little_none (x : Nat) (n : Int) (w : World) (h0 : n < 1) :
    Calls Tryd.prog 29 #[.int .u64 x, .int .i64 n] w fun e w' => e = .returned (.string ⟨([] : List UInt8).toArray⟩) ∧ w' = w := by
  have hconv : (convert 44 9 (.slice none 0 0)).run Tryd.prog w = .ok (.string ⟨([] : List UInt8).toArray⟩) w := conv_own (base := 0) (World.ownsRow_nil w 0 5 1)
  go_enter Tryd.func29, Tryd.ntmps29
  go_wp2_with fail
  refine (noughts_none n _ h0).mono ?_
  rintro e w1 ⟨rfl, rfl⟩
  go_wp2
  refine wp_loop_rounds 1 ?_
  rw [rounds_succ]
  go_wp2
  go_ret
  exact ⟨rfl, rfl⟩

end Go.Proofs.YtbodjopdhciaeaaDoor
