/-
  The document's answers of snap: a file's bytes by looking through all files; a text's parts.
-/
import Derived.Test.YtolohndbbnbfbaaDoorPartM
import Derived.Laws.OwnMore
namespace Go.Proofs.YtolohndbbnbfbaaDoor
open Go.RowKit

def RGetPost (fs : List FileB) (p : ByteArray) (e : Ending) : Prop := (∃ f ∈ fs, f.1 = p ∧ e = .returned (.tuple #[.string f.2, .bool true])) ∨ ((∀ f ∈ fs, f.1 ≠ p) ∧ e = .returned (.tuple #[.string .empty, .bool false]))
set_option maxHeartbeats 1600000 in
theorem rget_any (b off c : Nat) (fs : List FileB) (p : ByteArray) (w : World) (hb : b < w.heap.size) (hf : FilesAt w b off fs) (hl : fs.length ≤ 1000000) :
    Calls Tryd.prog 19 #[.slice (some ⟨b, off, none⟩) fs.length c, .string p] w fun e w' => RGetPost fs p e ∧ Below w.heap.size w w' := by
  have HF := hidM hf
  clear hf
  go_enter Tryd.func19, Tryd.ntmps19
  go_wp2_with fail
  go_loopw [7, 10] (fun _ i wr => ∃ (k : Nat), k ≤ fs.length ∧ i = .int .i64 k ∧ (∀ t (h : t < fs.length), t < k → fs[t].1 ≠ p) ∧ Below w.heap.size w wr) (fun _ i _ => fs.length - (intOf i).toNat)
  case atStart => exact ⟨0, Nat.zero_le _, rfl, fun t _ h => by omega, Below.refl _ _⟩
  case round =>
    obtain ⟨k, hk, rfl, hd, hbr⟩ := hrel
    have HD := hidM hd
    have HB := hidM hbr
    have hsz := hbr.size
    clear hd hbr
    by_cases hlt : k < fs.length
    · have kk : (k : Int) < (fs.length : Int) := by omega
      have c1 := (HF.out.below HB.out hb k hlt).1
      have c2 := (HF.out.below HB.out hb k hlt).2
      have HMEM : Hid (fs[k] ∈ fs) := List.getElem_mem hlt
      by_cases he : fs[k].1 = p
      · have HP : Hid (∀ e, e = .returned (.tuple #[.string fs[k].2, .bool true]) → RGetPost fs p e) := fun e h => .inl ⟨fs[k], HMEM.out, he, h⟩
        rw [he] at c1
        generalize fs[k].2 = D at *
        clear he
        go_wp2_with fail
        go_ret2
        exact ⟨HP.out _ rfl, HB.out.alloc hsz _⟩
      · have e1 : (fs[k].1.toList == p.toList) = false := by
          rw [ByteArray.toList_eq, ByteArray.toList_eq]
          exact beq_false_of_ne fun h => he (ba_eq h)
        have HN : Hid (∀ t (h : t < fs.length), t < k + 1 → fs[t].1 ≠ p) := fun t h ht => by
          by_cases h5 : t < k
          · exact HD.out t h h5
          · have : t = k := by omega
            subst this; exact he
        generalize fs[k].1 = X at *
        generalize fs[k].2 = D at *
        clear he
        go_wp2_with fail
        go_roundw
        case rel => exact ⟨k + 1, by omega, by go_num, HN.out, HB.out.alloc hsz _⟩
        case measure => (show fs.length - ((k : Int) + 1).toNat < fs.length - ((k : Int)).toNat); omega
    · obtain rfl : k = fs.length := by omega
      have HP : Hid (∀ e, e = .returned (.tuple #[.string .empty, .bool false]) → RGetPost fs p e) := fun e h => .inr ⟨fun f hf => by
        obtain ⟨t, ht, rfl⟩ := List.mem_iff_getElem.1 hf
        exact HD.out t ht ht, h⟩
      go_wp2_with fail
      go_ret2
      exact ⟨HP.out _ rfl, HB.out⟩
theorem parts_snoc (l : List UInt8) (c : UInt8) (h : c ≠ 47) : ∃ I Z, partsL l = I ++ [Z] ∧ partsL (l ++ [c]) = I ++ [Z ++ [c]] := by
  induction l with
  | nil => exact ⟨[], [], rfl, by simp [partsL, h]⟩
  | cons x l ih =>
    obtain ⟨I, Z, h1, h2⟩ := ih
    rw [List.cons_append, partsL_cons, partsL_cons, h1, h2]
    by_cases hx : x = 47
    · rw [if_pos hx, if_pos hx]
      exact ⟨[] :: I, Z, rfl, rfl⟩
    · rw [if_neg hx, if_neg hx]
      cases I with
      | nil => exact ⟨[], x :: Z, rfl, rfl⟩
      | cons a t => exact ⟨(x :: a) :: t, Z, rfl, rfl⟩
theorem parts_slash (l : List UInt8) : partsL (l ++ [47]) = partsL l ++ [[]] := partsL_app l []
def mkB (l : List UInt8) : ByteArray := ⟨l.toArray⟩
def rpB (s : ByteArray) (k : Nat) : List ByteArray := (partsL (s.data.toList.take k)).map mkB
theorem rpB_slash (s : ByteArray) (k : Nat) (h : k < s.size) (hc : s[k] = 47) : rpB s (k + 1) = rpB s k ++ [⟨#[]⟩] := by
  unfold rpB
  rw [take_one s k h, hc, parts_slash, List.map_append]; rfl
theorem rpB_other (s : ByteArray) (k : Nat) (h : k < s.size) (hc : s[k] ≠ 47) : ∃ I Z, rpB s k = I ++ [Z] ∧ rpB s (k + 1) = I ++ [Z ++ s.extract k (k + 1)] := by
  obtain ⟨I, Z, h1, h2⟩ := parts_snoc (s.data.toList.take k) s[k] hc
  refine ⟨I.map mkB, mkB Z, by unfold rpB; rw [h1, List.map_append]; rfl, ?_⟩
  unfold rpB
  rw [take_one s k h, h2, List.map_append]
  congr 1
  simp only [List.map_cons, List.map_nil, List.cons.injEq, and_true]
  refine ba_eq ?_
  have e : (s.extract k (k + 1)).data.toList = [s[k]] := by
    rw [Lib.extract_data]
    have hl : k < s.data.toList.length := by rw [← Lib.size_eq]; exact h
    rw [List.drop_eq_getElem_cons hl]
    simp
    rfl
  rw [ByteArray.data_append, Array.toList_append, e]
  simp [mkB]
theorem parts_le (l : List UInt8) : ∀ p ∈ partsL l, p.length ≤ l.length := by
  induction l with
  | nil => intro p hp; simp [partsL] at hp; subst hp; simp
  | cons x l ih =>
    intro p hp
    rw [partsL_cons] at hp
    split at hp
    · rcases List.mem_cons.1 hp with rfl | hp
      · simp
      · have := ih p hp; simp; omega
    · split at hp
      · rename_i a t hh
        rcases List.mem_cons.1 hp with rfl | hp
        · have := ih a (by rw [hh]; simp); simp; omega
        · have := ih p (by rw [hh]; exact List.mem_cons_of_mem _ hp); simp; omega
      · simp at hp; subst hp; simp
theorem rpB_size (s : ByteArray) (k : Nat) : ∀ x ∈ rpB s k, x.size ≤ k := by
  intro x hx
  unfold rpB at hx
  obtain ⟨l, hl, rfl⟩ := List.mem_map.1 hx
  have h1 := parts_le _ l hl
  have h2 : (s.data.toList.take k).length ≤ k := by rw [List.length_take]; omega
  show l.toArray.size ≤ k
  rw [List.size_toArray]; omega
theorem rpB_len (s : ByteArray) (k : Nat) : (rpB s k).length ≤ k + 1 ∧ 0 < (rpB s k).length := by
  unfold rpB
  rw [List.length_map]
  refine ⟨?_, List.length_pos_iff.2 (partsL_ne _)⟩
  have : ∀ l : List UInt8, (partsL l).length ≤ l.length + 1 := fun l => by
    induction l with
    | nil => simp [partsL]
    | cons x l ih =>
      rw [partsL_cons]
      split
      · simp; omega
      · split
        · rename_i h t hh; rw [hh] at ih; simp at ih ⊢; omega
        · simp
  have h1 := this (s.data.toList.take k)
  have h2 : (s.data.toList.take k).length ≤ k := by rw [List.length_take]; omega
  omega
set_option maxHeartbeats 1600000 in
theorem rparts_any (s : ByteArray) (w : World) (hs : s.size ≤ 1000000) :
    Calls Tryd.prog 55 #[.string s] w fun e w' => SlRet w' w.heap.size (rpB s s.size) e ∧ Below w.heap.size w w' := by
  obtain ⟨i0, hi, hz0, hz1, hz2⟩ := info_parts info9
  go_enter Tryd.func55, Tryd.ntmps55
  go_wp2_with fail
  have HO0 : Hid (OwnS (w.alloc (.cells #[.string ⟨#[]⟩] 9)) w.heap.size (.slice (some ⟨w.heap.size, 0, none⟩) 1 1) (rpB s 0)) :=
    ⟨by simp [rpB, partsL, strsV], .inr ⟨w.heap.size, 1, #[.string ⟨#[]⟩], rfl, Nat.le_refl _, heap_alloc_new w _, Nat.le_refl _, by simp [maxLen], rfl, rfl⟩⟩
  go_loopw [3, 4] (fun v i wr => ∃ (k : Nat), k ≤ s.size ∧ i = .int .i64 k ∧ OwnS wr w.heap.size v (rpB s k) ∧ Below w.heap.size w wr) (fun _ i _ => s.size - (intOf i).toNat)
  case atStart => exact ⟨0, Nat.zero_le _, rfl, HO0.out, (Below.refl _ _).alloc (Nat.le_refl _) _⟩
  case round =>
    obtain ⟨k, hk, rfl, hown, hbr⟩ := hrel
    have HO := hidM hown
    have HB := hidM hbr
    have hsz := hbr.size
    clear hown hbr HO0
    have hln := rpB_len s k
    by_cases hlt : k < s.size
    · have kk : (k : Int) < (s.size : Int) := by omega
      obtain ⟨ch, hch⟩ : ∃ ch, ch = s[k].toNat := ⟨_, rfl⟩
      have r0 : (s[k].toNat : Int) = (ch : Int) := by omega
      by_cases h47 : s[k] = 47
      · have HT := hidM (rpB_slash s k hlt h47)
        have r47 : (s[k].toNat : Int) = 47 := by rw [h47]; rfl
        generalize rpB s k = L at *
        clear h47 r0 hch
        go_wp2_with (first
          | (at_builtin; refine wpList_append_own _ rfl _ _ 37 rfl w.heap.size 9 i0 (.string .empty) 1 16 Tryd.underlying37 hi hz0 hz1 hz2 rfl (by decide) _ _ _ rfl (World.ownsRow.alloc HO.out _) ⟨wr.heap.size, 0, none⟩ 1 1 [.string ⟨#[]⟩] ?d0 rfl ?d1 ?d2 ?d3 ?d4 ?d5 ?_))
        case d0 => rfl
        case d1 => exact cell_new_at _ _ _ _ rfl
        case d2 => intro u hu; simp at hu; subst hu; rfl
        case d3 => unfold maxLen; omega
        case d4 => omega
        case d5 => simp; omega
        intro v' w2 hown' hgrow _
        have HO2 := hidM (OwnS.push hown')
        have HB3 := hidM (OwnS.below HO.out HB.out hsz hgrow)
        clear hown' hgrow
        go_wp2_with fail
        go_roundw
        case rel => exact ⟨k + 1, by omega, by go_num, by rw [HT.out]; exact HO2.out, HB3.out⟩
        case measure => (show s.size - ((k : Int) + 1).toNat < s.size - ((k : Int)).toNat); omega
      · have qc : ((ch : Int) == 47) = false := by
          have : ch ≠ 47 := fun e => h47 (by rw [← UInt8.toNat_inj, ← hch, e]; rfl)
          simp; omega
        obtain ⟨I, Z, h1, h2⟩ := rpB_other s k hlt h47
        have HT := hidM h2
        have hzs := rpB_size s k Z (by rw [h1]; simp)
        rw [h1] at HO hln
        clear h1 h2 h47 hch
        obtain ⟨a, cp, rfl, hsh⟩ := HO.out.shape
        obtain ⟨g, rfl, hg1, hg2, hst⟩ := hsh (by simp)
        obtain ⟨m, hm⟩ : ∃ m, m = I.length := ⟨_, rfl⟩
        have hLm : (I ++ [Z]).length = m + 1 := by rw [hm]; simp
        have cm : wr.cell? ⟨g, m, none⟩ = some (.string Z) := by
          have := hst m (by rw [hLm]; omega)
          rw [this]; simp [hm]
        have fz : wr.frozen? ⟨g, m, none⟩ = false := World.ownsRow.frozenAt HO.out m
        have HO' : Hid (wr.ownsRow w.heap.size 9 1 (.slice (some ⟨g, 0, none⟩) (m + 1) cp) (m + 1) (strsV (I ++ [Z]))) := by
          have := HO.out
          unfold OwnS at this
          rw [hLm] at this
          exact this
        have HST : Hid (∀ (W : World) (x : ByteArray), W.ownsRow w.heap.size 9 1 (.slice (some ⟨g, 0, none⟩) (m + 1) cp) (m + 1) ((strsV (I ++ [Z])).set m (.string x)) → OwnS W w.heap.size (.slice (some ⟨g, 0, none⟩) (m + 1) cp) (I ++ [x])) := fun W x h => by
          unfold OwnS
          have e1 : (I ++ [x]).length = m + 1 := by rw [hm]; simp
          have e2 : (strsV (I ++ [Z])).set m (.string x) = strsV (I ++ [x]) := by
            unfold strsV
            rw [List.map_append, List.map_append, List.set_append_right _ _ (by simp [hm])]
            simp [hm]
          rw [e1, ← e2]; exact h
        have hlm : m ≤ k := by have := hln.1; omega
        rw [hLm]
        have j1 : ((m + 1 : Nat) : Int) - 1 = (m : Int) := by omega
        have j2 : (m : Int) < ((m + 1 : Nat) : Int) := by omega
        have j3 : (k : Int) + 1 = ((k + 1 : Nat) : Int) := by omega
        have j4 : ((k + 1 : Nat) : Int) ≤ (s.size : Int) := by omega
        have j5 : (k : Int) ≤ ((k + 1 : Nat) : Int) := by omega
        have hes : (s.extract k (k + 1)).size ≤ 1 := by rw [ByteArray.size_extract]; omega
        clear hsh hst hLm hln HO hm
        generalize m + 1 = m1 at *
        generalize k + 1 = k1 at *
        go_wp2_with fail
        go_region
        have HSD := hidM (World.ownsRow.stored HO'.out m (.string (Z ++ s.extract k k1)))
        have HO2 : Hid (OwnS (wr.setCell ⟨g, m, none⟩ (.string (Z ++ s.extract k k1))).drew w.heap.size (.slice (some ⟨g, 0, none⟩) m1 cp) (I ++ [Z ++ s.extract k k1])) := HST.out _ _ HSD.out.1.drew
        have HB2 : Hid (Below w.heap.size w (wr.setCell ⟨g, m, none⟩ (.string (Z ++ s.extract k k1))).drew) := below_drewN (HB.out.grown HSD.out.2 hsz (fun j hj => by cases hj; exact hg1)) 1
        generalize (wr.setCell ⟨g, m, none⟩ (.string (Z ++ s.extract k k1))).drew = w2 at *
        clear HSD cm fz HO' HST
        go_wp2_with fail
        go_roundw
        case rel => exact ⟨k1, by omega, by go_num, by rw [HT.out]; exact HO2.out, HB2.out⟩
        case measure => (show s.size - ((k1 : Int)).toNat < s.size - ((k : Int)).toNat); omega
    · obtain rfl : k = s.size := by omega
      go_wp2_with fail
      go_ret
      exact ⟨⟨_, HO.out, rfl⟩, HB.out⟩
end Go.Proofs.YtolohndbbnbfbaaDoor
