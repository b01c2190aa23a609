/-
  Texts cut at each byte, by the document.
-/
import Derived.Test.YtgkjmmfpbcgmgaaDoorPthF
import Derived.Test.YtgkjmmfpbcgmgaaDoorMfT
import Derived.Laws.OwnMore
namespace Go.Proofs.YtgkjmmfpbcgmgaaDoor
open Go.RowKit

theorem below_drewN {B : Nat} {w w' : World} (h : Below B w w') (n : Nat) : Below B w (w'.drewN n) := h.trans ⟨rfl, rfl, rfl, by simp, fun k _ => by simp⟩
theorem bytes_ext {a b : ByteArray} (h : a.data.toList = b.data.toList) : a = b := ByteArray.ext (Array.toList_inj.1 h)
theorem size_len (s : ByteArray) : s.data.toList.length = s.size := Array.length_toList
def strOf (l : List UInt8) : ByteArray := ⟨l.toArray⟩
theorem strOf_size (l : List UInt8) : (strOf l).size = l.length := by show l.toArray.size = _; simp
/-- the parts of a text between the bytes c -/
def cutL (c : UInt8) : List UInt8 → List (List UInt8)
  | [] => [[]]
  | b :: l => if b = c then [] :: cutL c l else match cutL c l with
    | [] => [[b]]
    | p :: ps => (b :: p) :: ps
theorem cutL_ne (c : UInt8) (l : List UInt8) : cutL c l ≠ [] := by
  cases l with
  | nil => simp [cutL]
  | cons b l =>
    unfold cutL
    split
    · simp
    · split <;> simp
theorem cutL_one {c : UInt8} : ∀ {l : List UInt8}, c ∉ l → cutL c l = [l]
  | [], _ => rfl
  | b :: l, h => by
    have h1 : ¬ b = c := fun e => h (by rw [e]; exact List.mem_cons_self)
    have h2 : c ∉ l := fun e => h (List.mem_cons_of_mem _ e)
    unfold cutL
    rw [if_neg h1, cutL_one h2]
theorem cutL_app {c : UInt8} : ∀ {l r : List UInt8}, c ∉ l → cutL c (l ++ c :: r) = l :: cutL c r
  | [], r, _ => by
    show cutL c (c :: r) = _
    rw [cutL, if_pos rfl]
  | b :: l, r, h => by
    have h1 : ¬ b = c := fun e => h (by rw [e]; exact List.mem_cons_self)
    have h2 : c ∉ l := fun e => h (List.mem_cons_of_mem _ e)
    show cutL c (b :: (l ++ c :: r)) = _
    rw [cutL, if_neg h1, cutL_app h2]
/-- what the loop of Cut makes of its list at one byte -/
def stepL (c : UInt8) (L : List (List UInt8)) (x : UInt8) : List (List UInt8) := if x = c then L ++ [[]] else L.dropLast ++ [L.getLastD [] ++ [x]]
theorem fold_cut (c : UInt8) : ∀ (l : List UInt8) (L : List (List UInt8)) (p : List UInt8), c ∉ p → l.foldl (stepL c) (L ++ [p]) = L ++ cutL c (p ++ l)
  | [], L, p, h => by rw [List.append_nil, cutL_one h]; rfl
  | x :: l, L, p, h => by
    rw [List.foldl_cons]
    by_cases hx : x = c
    · subst hx
      have e : stepL x (L ++ [p]) x = (L ++ [p]) ++ [[]] := by unfold stepL; rw [if_pos rfl]
      rw [e, fold_cut x l (L ++ [p]) [] (by simp), cutL_app h]
      simp
    · have e : stepL c (L ++ [p]) x = L ++ [p ++ [x]] := by unfold stepL; rw [if_neg hx]; simp
      rw [e, fold_cut c l L (p ++ [x]) (fun hm => by rcases List.mem_append.1 hm with hm | hm; exact h hm; simp at hm; exact hx hm.symm)]
      simp
theorem fold_whole (c : UInt8) (l : List UInt8) : l.foldl (stepL c) [[]] = cutL c l := fold_cut c l [] [] (by simp)
theorem fold_len (c : UInt8) (l : List UInt8) : ∀ (L : List (List UInt8)), 0 < L.length → 0 < (l.foldl (stepL c) L).length ∧ (l.foldl (stepL c) L).length ≤ L.length + l.length := by
  induction l with
  | nil => intro L h; exact ⟨h, Nat.le_refl _⟩
  | cons x l ih =>
    intro L h
    have h1 : 0 < (stepL c L x).length ∧ (stepL c L x).length ≤ L.length + 1 := by
      unfold stepL
      split <;> simp
    have := ih _ h1.1
    rw [List.foldl_cons]
    simp only [List.length_cons]
    omega
theorem cutL_len (c : UInt8) (l : List UInt8) : (cutL c l).length ≤ l.length + 1 := by
  have := fold_len c l [[]] (by simp)
  rw [fold_whole] at this
  simp at this
  omega
theorem cutL_size (c : UInt8) : ∀ (l p : List UInt8), p ∈ cutL c l → p.length ≤ l.length
  | [], p, h => by simp [cutL] at h; subst h; simp
  | b :: l, p, h => by
    unfold cutL at h
    split at h
    · rcases List.mem_cons.1 h with h | h
      · subst h; simp
      · have := cutL_size c l p h; simp; omega
    · split at h
      · simp at h; subst h; simp
      · rename_i q qs hq
        rcases List.mem_cons.1 h with h | h
        · subst h
          have := cutL_size c l q (by rw [hq]; exact List.mem_cons_self)
          simp; omega
        · have := cutL_size c l p (by rw [hq]; exact List.mem_cons_of_mem _ h); simp; omega
/-- the parts that the loop of Cut has made of the first k bytes -/
def cuB (c : UInt8) (s : ByteArray) (k : Nat) : List ByteArray := (cutL c (s.data.toList.take k)).map strOf
theorem cut_next (c : UInt8) (s : ByteArray) (k : Nat) (h : k < s.size) : cutL c (s.data.toList.take (k + 1)) = stepL c (cutL c (s.data.toList.take k)) s[k] := by
  rw [take_one s k h, ← fold_whole, ← fold_whole, List.foldl_append]
  rfl
theorem cuB_hit (c : UInt8) (s : ByteArray) (k : Nat) (h : k < s.size) (hc : s[k] = c) : cuB c s (k + 1) = cuB c s k ++ [⟨#[]⟩] := by
  unfold cuB
  rw [cut_next c s k h]
  unfold stepL
  rw [if_pos hc, List.map_append]
  rfl
theorem one_byte (s : ByteArray) (k : Nat) (h : k < s.size) : (s.extract k (k + 1)).data.toList = [s[k]] := by
  rw [Lib.extract_data]
  have hl : k < s.data.toList.length := by rw [← Lib.size_eq]; exact h
  rw [List.drop_eq_getElem_cons hl]
  simp
  rfl
theorem cuB_other (c : UInt8) (s : ByteArray) (k : Nat) (h : k < s.size) (hc : s[k] ≠ c) : ∃ I Z, cuB c s k = I ++ [Z] ∧ cuB c s (k + 1) = I ++ [Z ++ s.extract k (k + 1)] := by
  have hn := cutL_ne c (s.data.toList.take k)
  unfold cuB
  rw [cut_next c s k h]
  generalize cutL c (s.data.toList.take k) = L at *
  refine ⟨L.dropLast.map strOf, strOf (L.getLastD []), ?_, ?_⟩
  · conv => lhs; rw [← List.dropLast_concat_getLast hn]
    rw [List.map_append, List.getLastD_eq_getLast?, List.getLast?_eq_some_getLast hn]
    rfl
  · unfold stepL
    rw [if_neg hc, List.map_append]
    congr 1
    simp only [List.map_cons, List.map_nil, List.cons.injEq, and_true]
    refine bytes_ext ?_
    rw [ByteArray.data_append, Array.toList_append, one_byte s k h]
    rfl
theorem cuB_size (c : UInt8) (s : ByteArray) (k : Nat) : ∀ x ∈ cuB c s k, x.size ≤ k := by
  intro x hx
  unfold cuB at hx
  obtain ⟨l, hl, rfl⟩ := List.mem_map.1 hx
  have h1 := cutL_size c _ l hl
  have h2 : (s.data.toList.take k).length ≤ k := by rw [List.length_take]; omega
  rw [strOf_size]; omega
theorem cuB_len (c : UInt8) (s : ByteArray) (k : Nat) : (cuB c s k).length ≤ k + 1 ∧ 0 < (cuB c s k).length := by
  unfold cuB
  rw [List.length_map]
  have h1 := cutL_len c (s.data.toList.take k)
  have h2 : (s.data.toList.take k).length ≤ k := by rw [List.length_take]; omega
  exact ⟨by omega, List.length_pos_iff.2 (cutL_ne _ _)⟩
/-- the parts of a text between the bytes c -/
def cutB (c : UInt8) (s : ByteArray) : List ByteArray := (cutL c s.data.toList).map strOf
theorem cuB_all (c : UInt8) (s : ByteArray) : cuB c s s.size = cutB c s := by
  unfold cuB cutB
  rw [List.take_of_length_le (by rw [size_len]; exact Nat.le_refl _)]
set_option maxHeartbeats 1600000 in
theorem rcut_any (s : ByteArray) (c : UInt8) (w : World) (hs : s.size ≤ 1000000) :
    Calls Tryd.prog 22 #[.string s, .int .u8 (c.toNat : Int)] w fun e w' => SlRet w' w.heap.size (cutB c s) e ∧ Below w.heap.size w w' := by
  obtain ⟨i0, hi, hz0, hz1, hz2⟩ := info_parts info9
  go_enter Tryd.func22, Tryd.ntmps22
  go_wp2_with fail
  have HO0 : Hid (OwnS (w.alloc (.cells #[.string ⟨#[]⟩] 9)) w.heap.size (.slice (some ⟨w.heap.size, 0, none⟩) 1 1) (cuB c s 0)) :=
    ⟨by simp [cuB, cutL, strsV], .inr ⟨w.heap.size, 1, #[.string ⟨#[]⟩], rfl, Nat.le_refl _, heap_alloc_new w _, Nat.le_refl _, by simp [maxLen], rfl, rfl⟩⟩
  go_loopw [5, 6] (fun v i wr => ∃ (k : Nat), k ≤ s.size ∧ i = .int .i64 k ∧ OwnS wr w.heap.size v (cuB c s k) ∧ Below w.heap.size w wr) (fun _ i _ => s.size - (intOf i).toNat)
  case atStart => exact ⟨0, Nat.zero_le _, rfl, HO0.out, (Below.refl _ _).alloc (Nat.le_refl _) _⟩
  case round =>
    obtain ⟨k, hk, rfl, hown, hbr⟩ := hrel
    have HO := hidM hown
    have HB := hidM hbr
    have hsz := hbr.size
    clear hown hbr HO0
    have hln := cuB_len c s k
    by_cases hlt : k < s.size
    · have kk : (k : Int) < (s.size : Int) := by omega
      by_cases h47 : s[k] = c
      · have HT := hidM (cuB_hit c s k hlt h47)
        have r47 : (s[k].toNat : Int) = (c.toNat : Int) := by rw [h47]
        generalize cuB c s k = L at *
        clear h47
        go_wp2_with (first
          | (at_builtin; refine wpList_append_own _ rfl _ _ 35 rfl w.heap.size 9 i0 (.string .empty) 1 16 Tryd.underlying35 hi hz0 hz1 hz2 rfl (by decide) _ _ _ rfl (World.ownsRow.alloc HO.out _) ⟨wr.heap.size, 0, none⟩ 1 1 [.string ⟨#[]⟩] ?d0 rfl ?d1 ?d2 ?d3 ?d4 ?d5 ?_))
        case d0 => rfl
        case d1 => exact cell_new_at _ _ _ _ rfl
        case d2 => intro u hu; simp at hu; subst hu; rfl
        case d3 => unfold maxLen; omega
        case d4 => omega
        case d5 => simp; omega
        intro v' w2 hown' hgrow _
        have HO2 := hidM (OwnS.push hown')
        have HB3 := hidM (OwnS.below HO.out HB.out hsz hgrow)
        clear hown' hgrow
        go_wp2_with fail
        go_roundw
        case rel => exact ⟨k + 1, by omega, by go_num, by rw [HT.out]; exact HO2.out, HB3.out⟩
        case measure => (show s.size - ((k : Int) + 1).toNat < s.size - ((k : Int)).toNat); omega
      · have qn : ¬ (s[k].toNat : Int) = (c.toNat : Int) := fun h => h47 (by rw [← UInt8.toNat_inj]; omega)
        have qc : ((s[k].toNat : Int) == (c.toNat : Int)) = false := beq_false_of_ne qn
        obtain ⟨I, Z, h1, h2⟩ := cuB_other c s k hlt h47
        have HT := hidM h2
        have hzs := cuB_size c s k Z (by rw [h1]; simp)
        rw [h1] at HO hln
        clear h1 h2 h47
        obtain ⟨a, cp, rfl, hsh⟩ := HO.out.shape
        obtain ⟨g, rfl, hg1, hg2, hst⟩ := hsh (by simp)
        obtain ⟨m, hm⟩ : ∃ m, m = I.length := ⟨_, rfl⟩
        have hLm : (I ++ [Z]).length = m + 1 := by rw [hm]; simp
        have cm : wr.cell? ⟨g, m, none⟩ = some (.string Z) := by
          have := hst m (by rw [hLm]; omega)
          rw [this]; simp [hm]
        have fz : wr.frozen? ⟨g, m, none⟩ = false := World.ownsRow.frozenAt HO.out m
        have HO' : Hid (wr.ownsRow w.heap.size 9 1 (.slice (some ⟨g, 0, none⟩) (m + 1) cp) (m + 1) (strsV (I ++ [Z]))) := by
          have := HO.out
          unfold OwnS at this
          rw [hLm] at this
          exact this
        have HST : Hid (∀ (W : World) (x : ByteArray), W.ownsRow w.heap.size 9 1 (.slice (some ⟨g, 0, none⟩) (m + 1) cp) (m + 1) ((strsV (I ++ [Z])).set m (.string x)) → OwnS W w.heap.size (.slice (some ⟨g, 0, none⟩) (m + 1) cp) (I ++ [x])) := fun W x h => by
          unfold OwnS
          have e1 : (I ++ [x]).length = m + 1 := by rw [hm]; simp
          have e2 : (strsV (I ++ [Z])).set m (.string x) = strsV (I ++ [x]) := by
            unfold strsV
            rw [List.map_append, List.map_append, List.set_append_right _ _ (by simp [hm])]
            simp [hm]
          rw [e1, ← e2]; exact h
        have hlm : m ≤ k := by have := hln.1; omega
        rw [hLm]
        have j1 : ((m + 1 : Nat) : Int) - 1 = (m : Int) := by omega
        have j2 : (m : Int) < ((m + 1 : Nat) : Int) := by omega
        have j3 : (k : Int) + 1 = ((k + 1 : Nat) : Int) := by omega
        have j4 : ((k + 1 : Nat) : Int) ≤ (s.size : Int) := by omega
        have j5 : (k : Int) ≤ ((k + 1 : Nat) : Int) := by omega
        have hes : (s.extract k (k + 1)).size ≤ 1 := by rw [ByteArray.size_extract]; omega
        clear hsh hst hLm hln HO hm
        generalize m + 1 = m1 at *
        generalize k + 1 = k1 at *
        go_wp2_with fail
        go_region
        have HSD := hidM (World.ownsRow.stored HO'.out m (.string (Z ++ s.extract k k1)))
        have HO2 : Hid (OwnS (wr.setCell ⟨g, m, none⟩ (.string (Z ++ s.extract k k1))).drew w.heap.size (.slice (some ⟨g, 0, none⟩) m1 cp) (I ++ [Z ++ s.extract k k1])) := HST.out _ _ HSD.out.1.drew
        have HB2 : Hid (Below w.heap.size w (wr.setCell ⟨g, m, none⟩ (.string (Z ++ s.extract k k1))).drew) := below_drewN (HB.out.grown HSD.out.2 hsz (fun j hj => by cases hj; exact hg1)) 1
        generalize (wr.setCell ⟨g, m, none⟩ (.string (Z ++ s.extract k k1))).drew = w2 at *
        clear HSD cm fz HO' HST
        go_wp2_with fail
        go_roundw
        case rel => exact ⟨k1, by omega, by go_num, by rw [HT.out]; exact HO2.out, HB2.out⟩
        case measure => (show s.size - ((k1 : Int)).toNat < s.size - ((k : Int)).toNat); omega
    · obtain rfl : k = s.size := by omega
      go_wp2_with fail
      go_ret
      exact ⟨⟨_, by rw [← cuB_all]; exact HO.out, rfl⟩, HB.out⟩
end Go.Proofs.YtgkjmmfpbcgmgaaDoor
