/-
  Walks of the document's semver: texts in a row of the call's own; Find, Cut, Digits, Number, level, ByNumber.
-/
import Derived.Test.YtdbkmcjdkiljaaaDoorCutM
namespace Go.Proofs.YtdbkmcjdkiljaaaDoor
open Go.RowKit

/-- texts, in a row of the call's own -/
def strsV (l : List ByteArray) : List Value := l.map Value.string
def OwnS (w : World) (B : Nat) (v : Value) (l : List ByteArray) : Prop := w.ownsRow B 9 1 v l.length (strsV l)
theorem OwnS.push {w : World} {B : Nat} {v : Value} {l : List ByteArray} {x : ByteArray} (h : w.ownsRow B 9 1 v (l.length + 1) (strsV l ++ [.string x])) : OwnS w B v (l ++ [x]) := by
  unfold OwnS strsV
  rw [List.map_append]
  simpa [strsV] using h
theorem cell_new_at (w : World) (v : Value) (t n : Nat) (hn : w.heap.size = n) : ∀ j u, [v][j]? = some u → (w.alloc (.cells #[v] t)).cell? ((⟨n, 0, none⟩ : Addr).add j) = some u := by
  intro j u hj
  subst hn
  rcases j with _ | j
  · simp at hj; subst hj; rw [Addr.add_lit]; simp
  · simp at hj
theorem OwnS.below {w wr w1 : World} {B : Nat} {v : Value} {l : List ByteArray} {o : Obj} (hown : OwnS wr B v l) (hb : Below B w wr) (hB : B ≤ wr.heap.size) (hg : (wr.alloc o).grownBy w1 v.ownBlock) : Below B w w1 :=
  (hb.alloc hB o).grown hg (by simp; omega) (fun k hk => (World.ownsRow.lt hown k hk).1)
def SlRet (w : World) (B : Nat) (l : List ByteArray) (e : Ending) : Prop := ∃ v, OwnS w B v l ∧ e = .returned v
def StrsAt (w : World) (g : Nat) (l : List ByteArray) : Prop := ∀ j (h : j < l.length), w.cell? ⟨g, j, none⟩ = some (.string l[j])
theorem StrsAt.below {w w' : World} {g B : Nat} {l : List ByteArray} (h : StrsAt w g l) (hb : Below B w w') (hB : g < B) : StrsAt w' g l := fun j hj =>
  (hb.cell (p := ⟨g, j, none⟩) hB).trans (h j hj)
theorem OwnS.shape {w : World} {B : Nat} {v : Value} {l : List ByteArray} (h : OwnS w B v l) : ∃ a c, v = .slice a l.length c ∧ (l ≠ [] → ∃ g, a = some ⟨g, 0, none⟩ ∧ B ≤ g ∧ g < w.heap.size ∧ StrsAt w g l) := by
  have h' := h
  rcases h.2 with ⟨hnil, hn⟩ | ⟨g, cap, cur, rfl, hbase, hbk, h1, h2, h3, h4⟩
  · refine ⟨none, 0, by rw [hnil, hn], fun hne => ?_⟩
    exact absurd (List.eq_nil_of_length_eq_zero hn) hne
  · refine ⟨_, cap, rfl, fun _ => ⟨g, rfl, hbase, (Array.getElem?_eq_some_iff.1 hbk).1, fun j hj => ?_⟩⟩
    have := World.ownsRow.cells h' (g := g) rfl j (.string l[j]) (by unfold strsV; simp [hj])
    rw [Addr.add_lit, Nat.zero_add] at this
    exact this
theorem take_one (s : ByteArray) (k : Nat) (h : k < s.size) : s.data.toList.take (k + 1) = s.data.toList.take k ++ [s[k]] := by
  rw [List.take_succ_eq_append_getElem (by simpa using h)]; rfl
theorem index_app (c : UInt8) (p q : List UInt8) (h : c ∉ p) : Lib.indexByte (p ++ c :: q) c = (p.length : Int) := (split_some (splitC_app h)).1
theorem index_none (c : UInt8) (l : List UInt8) (h : c ∉ l) : Lib.indexByte l c = -1 := by
  induction l with
  | nil => rfl
  | cons b l ih =>
    have h1 : b ≠ c := fun e => h (by simp [e])
    unfold Lib.indexByte
    rw [if_neg (by simpa using h1), ih (fun hc => h (by simp [hc]))]
    rfl
theorem split_at (s : ByteArray) (k : Nat) (h : k < s.size) : s.data.toList = s.data.toList.take k ++ s[k] :: s.data.toList.drop (k + 1) := by
  have h1 : k < s.data.toList.length := by simpa using h
  rw [show s[k] = s.data.toList[k] from rfl, ← List.drop_eq_getElem_cons h1, List.take_append_drop]
set_option maxHeartbeats 1600000 in
theorem find_any (s : ByteArray) (c : UInt8) (w : World) (hs : s.size ≤ 9223372036854775807) :
    Calls Tryd.prog 30 #[.string s, .int .u8 (c.toNat : Int)] w fun e w' => e = .returned (.int .i64 (Lib.indexByte s.data.toList c)) ∧ w' = w := by
  go_enter Tryd.func30, Tryd.ntmps30
  go_wp2
  go_loopw [5] (fun i wr => ∃ (k : Nat), k ≤ s.size ∧ i = .int .i64 k ∧ c ∉ s.data.toList.take k ∧ wr = w) (fun i _ => s.size - (intOf i).toNat)
  case atStart => exact ⟨0, Nat.zero_le _, rfl, by simp, rfl⟩
  case round =>
    obtain ⟨k, hk, rfl, hd, rfl⟩ := hrel
    have HD := hidM hd
    clear hd
    by_cases hlt : k < s.size
    · have kk : (k : Int) < (s.size : Int) := by omega
      by_cases he : s[k] = c
      · have HI : Hid (Lib.indexByte s.data.toList c = (k : Int)) := by
          unfold Hid
          have h := index_app c (s.data.toList.take k) (s.data.toList.drop (k + 1)) HD.out
          rw [← he] at h
          rw [← split_at s k hlt, he] at h
          rw [h, List.length_take]
          have : s.data.toList.length = s.size := by simp
          rw [Nat.min_eq_left (by omega)]
        have e1 : (s[k].toNat : Int) = (c.toNat : Int) := by rw [he]
        clear he
        go_wp2
        go_ret
        exact ⟨by rw [HI.out]; rfl, rfl⟩
      · have HX : Hid (c ∉ s.data.toList.take (k + 1)) := by
          unfold Hid
          rw [take_one s k hlt]
          intro h
          rcases List.mem_append.1 h with h | h
          · exact HD.out h
          · rw [List.mem_singleton] at h; exact he h.symm
        have e1 : ¬ (s[k].toNat : Int) = (c.toNat : Int) := fun h => he (by rw [← UInt8.toNat_inj]; omega)
        have e2 : ((s[k].toNat : Int) == (c.toNat : Int)) = false := beq_false_of_ne e1
        clear he
        go_wp2
        go_roundw
        case rel => exact ⟨k + 1, by omega, by go_num, HX.out, trivial⟩
        case measure => (show s.size - ((k : Int) + 1).toNat < s.size - ((k : Int)).toNat); omega
    · obtain rfl : k = s.size := by omega
      have HI : Hid (Lib.indexByte s.data.toList c = -1) := index_none c _ (by
        have := HD.out
        rwa [List.take_of_length_le (by rw [size_len]; omega)] at this)
      go_wp2
      go_ret
      exact ⟨by rw [HI.out]; rfl, rfl⟩
/-- the parts that the loop of Cut has made of the first k bytes -/
def cuB (c : UInt8) (s : ByteArray) (k : Nat) : List ByteArray := (cutL c (s.data.toList.take k)).map strOf
theorem cut_next (c : UInt8) (s : ByteArray) (k : Nat) (h : k < s.size) : cutL c (s.data.toList.take (k + 1)) = stepL c (cutL c (s.data.toList.take k)) s[k] := by
  rw [take_one s k h, ← fold_whole, ← fold_whole, List.foldl_append]
  rfl
theorem cuB_hit (c : UInt8) (s : ByteArray) (k : Nat) (h : k < s.size) (hc : s[k] = c) : cuB c s (k + 1) = cuB c s k ++ [⟨#[]⟩] := by
  unfold cuB
  rw [cut_next c s k h]
  unfold stepL
  rw [if_pos hc, List.map_append]
  rfl
theorem one_byte (s : ByteArray) (k : Nat) (h : k < s.size) : (s.extract k (k + 1)).data.toList = [s[k]] := by
  rw [Lib.extract_data]
  have hl : k < s.data.toList.length := by rw [← Lib.size_eq]; exact h
  rw [List.drop_eq_getElem_cons hl]
  simp
  rfl
theorem cuB_other (c : UInt8) (s : ByteArray) (k : Nat) (h : k < s.size) (hc : s[k] ≠ c) : ∃ I Z, cuB c s k = I ++ [Z] ∧ cuB c s (k + 1) = I ++ [Z ++ s.extract k (k + 1)] := by
  have hn := cutL_ne c (s.data.toList.take k)
  unfold cuB
  rw [cut_next c s k h]
  generalize cutL c (s.data.toList.take k) = L at *
  refine ⟨L.dropLast.map strOf, strOf (L.getLastD []), ?_, ?_⟩
  · conv => lhs; rw [← List.dropLast_concat_getLast hn]
    rw [List.map_append, List.getLastD_eq_getLast?, List.getLast?_eq_some_getLast hn]
    rfl
  · unfold stepL
    rw [if_neg hc, List.map_append]
    congr 1
    simp only [List.map_cons, List.map_nil, List.cons.injEq, and_true]
    refine bytes_ext ?_
    rw [ByteArray.data_append, Array.toList_append, one_byte s k h]
    rfl
theorem cuB_size (c : UInt8) (s : ByteArray) (k : Nat) : ∀ x ∈ cuB c s k, x.size ≤ k := by
  intro x hx
  unfold cuB at hx
  obtain ⟨l, hl, rfl⟩ := List.mem_map.1 hx
  have h1 := cutL_size c _ l hl
  have h2 : (s.data.toList.take k).length ≤ k := by rw [List.length_take]; omega
  rw [strOf_size]; omega
theorem cuB_len (c : UInt8) (s : ByteArray) (k : Nat) : (cuB c s k).length ≤ k + 1 ∧ 0 < (cuB c s k).length := by
  unfold cuB
  rw [List.length_map]
  have h1 := cutL_len c (s.data.toList.take k)
  have h2 : (s.data.toList.take k).length ≤ k := by rw [List.length_take]; omega
  exact ⟨by omega, List.length_pos_iff.2 (cutL_ne _ _)⟩
/-- the parts of a text between the bytes c -/
def cutB (c : UInt8) (s : ByteArray) : List ByteArray := (cutL c s.data.toList).map strOf
theorem cuB_all (c : UInt8) (s : ByteArray) : cuB c s s.size = cutB c s := by
  unfold cuB cutB
  rw [List.take_of_length_le (by rw [size_len]; exact Nat.le_refl _)]
theorem cutB_parts (s : ByteArray) : cutB 46 s = partsB s := (parts_eq s).symm
set_option maxHeartbeats 1600000 in
theorem rcut_any (s : ByteArray) (c : UInt8) (w : World) (hs : s.size ≤ 1000000) :
    Calls Tryd.prog 32 #[.string s, .int .u8 (c.toNat : Int)] w fun e w' => SlRet w' w.heap.size (cutB c s) e ∧ Below w.heap.size w w' := by
  obtain ⟨i0, hi, hz0, hz1, hz2⟩ := info_parts info9
  go_enter Tryd.func32, Tryd.ntmps32
  go_wp2_with fail
  have HO0 : Hid (OwnS (w.alloc (.cells #[.string ⟨#[]⟩] 9)) w.heap.size (.slice (some ⟨w.heap.size, 0, none⟩) 1 1) (cuB c s 0)) :=
    ⟨by simp [cuB, cutL, strsV], .inr ⟨w.heap.size, 1, #[.string ⟨#[]⟩], rfl, Nat.le_refl _, heap_alloc_new w _, Nat.le_refl _, by simp [maxLen], rfl, rfl⟩⟩
  go_loopw [5, 6] (fun v i wr => ∃ (k : Nat), k ≤ s.size ∧ i = .int .i64 k ∧ OwnS wr w.heap.size v (cuB c s k) ∧ Below w.heap.size w wr) (fun _ i _ => s.size - (intOf i).toNat)
  case atStart => exact ⟨0, Nat.zero_le _, rfl, HO0.out, (Below.refl _ _).alloc (Nat.le_refl _) _⟩
  case round =>
    obtain ⟨k, hk, rfl, hown, hbr⟩ := hrel
    have HO := hidM hown
    have HB := hidM hbr
    have hsz := hbr.size
    clear hown hbr HO0
    have hln := cuB_len c s k
    by_cases hlt : k < s.size
    · have kk : (k : Int) < (s.size : Int) := by omega
      by_cases h47 : s[k] = c
      · have HT := hidM (cuB_hit c s k hlt h47)
        have r47 : (s[k].toNat : Int) = (c.toNat : Int) := by rw [h47]
        generalize cuB c s k = L at *
        clear h47
        go_wp2_with (first
          | (at_builtin; refine wpList_append_own _ rfl _ _ 35 rfl w.heap.size 9 i0 (.string .empty) 1 16 Tryd.underlying35 hi hz0 hz1 hz2 rfl (by decide) _ _ _ rfl (World.ownsRow.alloc HO.out _) ⟨wr.heap.size, 0, none⟩ 1 1 [.string ⟨#[]⟩] ?d0 rfl ?d1 ?d2 ?d3 ?d4 ?d5 ?_))
        case d0 => rfl
        case d1 => exact cell_new_at _ _ _ _ rfl
        case d2 => intro u hu; simp at hu; subst hu; rfl
        case d3 => unfold maxLen; omega
        case d4 => omega
        case d5 => simp; omega
        intro v' w2 hown' hgrow _
        have HO2 := hidM (OwnS.push hown')
        have HB3 := hidM (OwnS.below HO.out HB.out hsz hgrow)
        clear hown' hgrow
        go_wp2_with fail
        go_roundw
        case rel => exact ⟨k + 1, by omega, by go_num, by rw [HT.out]; exact HO2.out, HB3.out⟩
        case measure => (show s.size - ((k : Int) + 1).toNat < s.size - ((k : Int)).toNat); omega
      · have qn : ¬ (s[k].toNat : Int) = (c.toNat : Int) := fun h => h47 (by rw [← UInt8.toNat_inj]; omega)
        have qc : ((s[k].toNat : Int) == (c.toNat : Int)) = false := beq_false_of_ne qn
        obtain ⟨I, Z, h1, h2⟩ := cuB_other c s k hlt h47
        have HT := hidM h2
        have hzs := cuB_size c s k Z (by rw [h1]; simp)
        rw [h1] at HO hln
        clear h1 h2 h47
        obtain ⟨a, cp, rfl, hsh⟩ := HO.out.shape
        obtain ⟨g, rfl, hg1, hg2, hst⟩ := hsh (by simp)
        obtain ⟨m, hm⟩ : ∃ m, m = I.length := ⟨_, rfl⟩
        have hLm : (I ++ [Z]).length = m + 1 := by rw [hm]; simp
        have cm : wr.cell? ⟨g, m, none⟩ = some (.string Z) := by
          have := hst m (by rw [hLm]; omega)
          rw [this]; simp [hm]
        have fz : wr.frozen? ⟨g, m, none⟩ = false := World.ownsRow.frozenAt HO.out m
        have HO' : Hid (wr.ownsRow w.heap.size 9 1 (.slice (some ⟨g, 0, none⟩) (m + 1) cp) (m + 1) (strsV (I ++ [Z]))) := by
          have := HO.out
          unfold OwnS at this
          rw [hLm] at this
          exact this
        have HST : Hid (∀ (W : World) (x : ByteArray), W.ownsRow w.heap.size 9 1 (.slice (some ⟨g, 0, none⟩) (m + 1) cp) (m + 1) ((strsV (I ++ [Z])).set m (.string x)) → OwnS W w.heap.size (.slice (some ⟨g, 0, none⟩) (m + 1) cp) (I ++ [x])) := fun W x h => by
          unfold OwnS
          have e1 : (I ++ [x]).length = m + 1 := by rw [hm]; simp
          have e2 : (strsV (I ++ [Z])).set m (.string x) = strsV (I ++ [x]) := by
            unfold strsV
            rw [List.map_append, List.map_append, List.set_append_right _ _ (by simp [hm])]
            simp [hm]
          rw [e1, ← e2]; exact h
        have hlm : m ≤ k := by have := hln.1; omega
        rw [hLm]
        have j1 : ((m + 1 : Nat) : Int) - 1 = (m : Int) := by omega
        have j2 : (m : Int) < ((m + 1 : Nat) : Int) := by omega
        have j3 : (k : Int) + 1 = ((k + 1 : Nat) : Int) := by omega
        have j4 : ((k + 1 : Nat) : Int) ≤ (s.size : Int) := by omega
        have j5 : (k : Int) ≤ ((k + 1 : Nat) : Int) := by omega
        have hes : (s.extract k (k + 1)).size ≤ 1 := by rw [ByteArray.size_extract]; omega
        clear hsh hst hLm hln HO hm
        generalize m + 1 = m1 at *
        generalize k + 1 = k1 at *
        go_wp2_with fail
        go_region
        have HSD := hidM (World.ownsRow.stored HO'.out m (.string (Z ++ s.extract k k1)))
        have HO2 : Hid (OwnS (wr.setCell ⟨g, m, none⟩ (.string (Z ++ s.extract k k1))).drew w.heap.size (.slice (some ⟨g, 0, none⟩) m1 cp) (I ++ [Z ++ s.extract k k1])) := HST.out _ _ HSD.out.1.drew
        have HB2 : Hid (Below w.heap.size w (wr.setCell ⟨g, m, none⟩ (.string (Z ++ s.extract k k1))).drew) := below_drewN (HB.out.grown HSD.out.2 hsz (fun j hj => by cases hj; exact hg1)) 1
        generalize (wr.setCell ⟨g, m, none⟩ (.string (Z ++ s.extract k k1))).drew = w2 at *
        clear HSD cm fz HO' HST
        go_wp2_with fail
        go_roundw
        case rel => exact ⟨k1, by omega, by go_num, by rw [HT.out]; exact HO2.out, HB2.out⟩
        case measure => (show s.size - ((k1 : Int)).toNat < s.size - ((k : Int)).toNat); omega
    · obtain rfl : k = s.size := by omega
      go_wp2_with fail
      go_ret
      exact ⟨⟨_, by rw [← cuB_all]; exact HO.out, rfl⟩, HB.out⟩
end Go.Proofs.YtdbkmcjdkiljaaaDoor
