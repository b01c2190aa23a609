/-
  Walks of the document's semver: Compare.
-/
import Derived.Test.YtdbkmcjdkiljaaaDoorRefG
namespace Go.Proofs.YtdbkmcjdkiljaaaDoor
open Go.RowKit

/-- the two boxes of the document's Compare -/
structure CmR (w : World) (B1 B2 : Nat) (x y : Ver) (V : World) : Prop where
  bel : Below w.heap.size w V
  b1 : V.heap[B1]? = some (.cells #[.string x.major, .string x.minor, .string x.patch, .string x.pre, .string x.build, .int .i64 (x.short : Int)] 26)
  b2 : V.heap[B2]? = some (.cells #[.string y.major, .string y.minor, .string y.patch, .string y.pre, .string y.build, .int .i64 (y.short : Int)] 26)
variable {w V w' : World} {B1 B2 : Nat} {x y : Ver}
theorem CmR.next (H : CmR w B1 B2 x y V) (hb : Below V.heap.size V w') : CmR w B1 B2 x y w' := ⟨H.bel.trans (hb.mono H.bel.size), box_kept H.b1 hb, box_kept H.b2 hb⟩
theorem CmR.alloc {o : Obj} (H : CmR w B1 B2 x y V) : CmR w B1 B2 x y (V.alloc o) := H.next ((Below.refl _ _).alloc (Nat.le_refl _) _)
theorem CmR.drew (H : Hid (CmR w B1 B2 x y V)) : Hid (CmR w B1 B2 x y V.drew) := ⟨H.out.bel.trans ⟨rfl, rfl, rfl, Nat.le_refl _, fun _ _ => rfl⟩, H.out.b1, H.out.b2⟩
theorem CmR.drewN (H : Hid (CmR w B1 B2 x y V)) (n : Nat) : Hid (CmR w B1 B2 x y (V.drewN n)) := ⟨below_drewN H.out.bel n, H.out.b1, H.out.b2⟩
theorem CmR.full (H : CmR w B1 B2 x y w') : w'.cell? ⟨B1, 0, none⟩ = some (.string x.major) ∧ w'.cell? ⟨B1, 1, none⟩ = some (.string x.minor) ∧ w'.cell? ⟨B1, 2, none⟩ = some (.string x.patch) ∧ w'.cell? ⟨B1, 3, none⟩ = some (.string x.pre) ∧ w'.cell? ⟨B2, 0, none⟩ = some (.string y.major) ∧ w'.cell? ⟨B2, 1, none⟩ = some (.string y.minor) ∧ w'.cell? ⟨B2, 2, none⟩ = some (.string y.patch) ∧ w'.cell? ⟨B2, 3, none⟩ = some (.string y.pre) ∧ Hid (CmR w B1 B2 x y w') := by
  refine ⟨?_, ?_, ?_, ?_, ?_, ?_, ?_, ?_, H⟩
  · rw [cell_of_row _ _ _ _ 26 (0, 0) H.b1]; rfl
  · rw [cell_of_row _ _ _ _ 26 (0, 0) H.b1]; rfl
  · rw [cell_of_row _ _ _ _ 26 (0, 0) H.b1]; rfl
  · rw [cell_of_row _ _ _ _ 26 (0, 0) H.b1]; rfl
  · rw [cell_of_row _ _ _ _ 26 (0, 0) H.b2]; rfl
  · rw [cell_of_row _ _ _ _ 26 (0, 0) H.b2]; rfl
  · rw [cell_of_row _ _ _ _ 26 (0, 0) H.b2]; rfl
  · rw [cell_of_row _ _ _ _ 26 (0, 0) H.b2]; rfl
theorem cmp_nn {a b : ByteArray} (ha : parseR a = none) (hb : parseR b = none) : cmpS a b = 0 := by
  show cmpV ((parseR a).getD noVer) ((parseR b).getD noVer) = 0
  rw [ha, hb]; exact ord_ver.same _
theorem cmp_ns {a b : ByteArray} {v : Ver} (ha : parseR a = none) (hb : parseR b = some v) : cmpS a b = -1 := by
  have h := next_none hb
  have hn : parseR ⟨#[]⟩ = none := by decide +kernel
  have e : cmpS a b = cmpS ⟨#[]⟩ b := by
    show cmpV ((parseR a).getD noVer) _ = cmpV ((parseR ⟨#[]⟩).getD noVer) _
    rw [ha, hn]
  rw [e, h]
theorem cmp_sn {a b : ByteArray} {v : Ver} (ha : parseR a = some v) (hb : parseR b = none) : cmpS a b = 1 := by
  have := ord_text.anti b a
  rw [cmp_ns hb ha] at this
  exact this
/-- the words of two prereleases: where they part, and where one ends -/
theorem lex_hit {l m : List ByteArray} {k : Nat} (h1 : k < l.length) (h2 : k < m.length) (he : ∀ j (g1 : j < l.length) (g2 : j < m.length), j < k → l[j] = m[j]) (hn : wordCmp l[k] m[k] ≠ 0) : lexC l m = wordCmp l[k] m[k] := by
  rw [lex_drop k l m (by omega) (by omega) (fun j g1 g2 hj => by rw [he j g1 g2 hj]; exact ord_word.same _), List.drop_eq_getElem_cons h1, List.drop_eq_getElem_cons h2]
  show (if _ then _ else _) = _
  rw [if_neg hn]
theorem lex_end {l m : List ByteArray} {k : Nat} (hk : k ≤ l.length) (hk2 : k ≤ m.length) (hor : k = l.length ∨ k = m.length) (he : ∀ j (g1 : j < l.length) (g2 : j < m.length), j < k → l[j] = m[j]) : lexC l m = cmpI (l.length : Int) (m.length : Int) := by
  rw [lex_drop k l m hk hk2 (fun j g1 g2 hj => by rw [he j g1 g2 hj]; exact ord_word.same _)]
  unfold cmpI
  rcases Nat.lt_trichotomy l.length m.length with h | h | h
  · rw [if_pos (by omega), List.drop_of_length_le (show l.length ≤ k by omega), List.drop_eq_getElem_cons (show k < m.length by omega)]; rfl
  · rw [if_neg (by omega), if_neg (by omega), List.drop_of_length_le (show l.length ≤ k by omega), List.drop_of_length_le (show m.length ≤ k by omega)]; rfl
  · rw [if_neg (by omega), if_pos (by omega), List.drop_of_length_le (show m.length ≤ k by omega), List.drop_eq_getElem_cons (show k < l.length by omega)]; rfl
theorem num_zero {a b : ByteArray} (h : numC a b = 0) : a = b := by
  unfold numC at h
  rw [orL_two] at h
  split at h
  · exact bytes_ext ((cmp_zero _ _).1 h)
  · rename_i hn; exact absurd h hn
theorem word_zero {a b : ByteArray} (h : wordCmp a b = 0) : a = b := by
  unfold wordCmp at h
  split at h
  · exact num_zero h
  · split at h
    · cases h
    · split at h
      · cases h
      · exact bytes_ext ((cmp_zero _ _).1 h)
theorem dec_cmp {n m : Nat} (hn : n < 102) (hm : m < 102) : numC (decB n) (decB m) = cmpI (n : Int) (m : Int) := by
  have h := List.all_eq_true.1 (List.all_eq_true.1 dec_order n (List.mem_range.2 hn)) m (List.mem_range.2 hm)
  simpa using h
theorem dec_is {n : Nat} (hn : n < 102) : numL (decB n).data.toList = true ∧ (decB n).size ≤ 200 := ⟨List.all_eq_true.1 dec_num n (List.mem_range.2 hn), by simpa using List.all_eq_true.1 dec_size n (List.mem_range.2 hn)⟩
theorem rdec_any (n : Nat) (w : World) (h : n < 102) : Calls Tryd.prog 37 #[.int .i64 (n : Int)] w fun e w' => e = .returned (.string (decB n)) ∧ Below w.heap.size w w' := by
  refine (digits_pos 102 n w h (by omega)).mono ?_
  rintro e w' ⟨he, m, rfl⟩
  exact ⟨he, below_drewN (Below.refl _ _) m⟩
set_option maxHeartbeats 4000000 in
set_option maxRecDepth 100000 in
theorem rcompare_not (a b : ByteArray) (w : World) (ha : a.size ≤ 9223372036854775807) (hb : b.size ≤ 9223372036854775807) (h : parseR a = none ∨ parseR b = none) :
    Calls Tryd.prog 17 #[.string a, .string b] w fun e w' => e = .returned (.int .i64 (cmpS a b)) ∧ Below w.heap.size w w' := by
  have HA := hidM (rparse_any a w ha)
  have HB := hidM (fun V => rparse_any b V hb)
  have HC : Hid (((parseR a).isSome = false ∧ (parseR b).isSome = false ∧ cmpS a b = 0) ∨ ((parseR a).isSome = false ∧ (parseR b).isSome = true ∧ cmpS a b = -1) ∨ ((parseR a).isSome = true ∧ (parseR b).isSome = false ∧ cmpS a b = 1)) := by
    unfold Hid
    cases h1 : parseR a with
    | none =>
      cases h2 : parseR b with
      | none => exact Or.inl ⟨rfl, rfl, cmp_nn h1 h2⟩
      | some v => exact Or.inr (Or.inl ⟨rfl, rfl, cmp_ns h1 h2⟩)
    | some v =>
      cases h2 : parseR b with
      | none => exact Or.inr (Or.inr ⟨rfl, rfl, cmp_sn h1 h2⟩)
      | some u =>
        rcases h with h | h
        · rw [h1] at h; cases h
        · rw [h2] at h; cases h
  clear h
  generalize (parseR a).isSome = oa at *
  generalize (parseR b).isSome = ob at *
  generalize (parseR a).getD noVer = x at *
  generalize (parseR b).getD noVer = y at *
  rcases HC.out with ⟨rfl, rfl, hc⟩ | ⟨rfl, rfl, hc⟩ | ⟨rfl, rfl, hc⟩
  all_goals
    have HR := hidM hc
    clear hc HC
    go_enter Tryd.func17, Tryd.ntmps17
    go_wp2_with fail
    refine HA.out.mono ?_
    rintro _ w1 ⟨rfl, hb1⟩
    have HB1 : Hid (Below w.heap.size w (w1.alloc (.cells #[.string x.major, .string x.minor, .string x.patch, .string x.pre, .string x.build, .int .i64 (x.short : Int)] 26))) := hb1.alloc hb1.size _
    clear hb1
    go_wp2_with fail
    generalize (w1.alloc (.cells #[.string x.major, .string x.minor, .string x.patch, .string x.pre, .string x.build, .int .i64 (x.short : Int)] 26)) = W1 at *
    refine (HB.out W1).mono ?_
    rintro _ w2 ⟨rfl, hb2⟩
    have HB2 := hidM (HB1.out.trans (hb2.mono HB1.out.size))
    have HB3 : Hid (Below w.heap.size w (w2.alloc (.cells #[.string y.major, .string y.minor, .string y.patch, .string y.pre, .string y.build, .int .i64 (y.short : Int)] 26))) := HB2.out.alloc HB2.out.size _
    clear hb2
    go_wp2
    go_ret
    exact ⟨by rw [HR.out]; rfl, HB3.out⟩
end Go.Proofs.YtdbkmcjdkiljaaaDoor
