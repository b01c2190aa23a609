/-
  What the document's Parse of a pseudo-version says, as a function of the text, is what the program's says.
  Walks of the document's semver: texts in a row of the call's own; Find, Cut, Digits, Number, level, ByNumber.
  Walks of the document's semver: Digits, Number, level, ByNumber.
  Walks of the document's semver: Words.
-/
import Derived.Test.YtmhjdahmmdfbcaaGreatDoorJPsO
import Derived.Laws.Cover1
namespace Go.Proofs.YtmhjdahmmdfbcaaGreatDoor
open Go.RowKit

theorem hex_no_hyphen {l : List UInt8} (h : hexed l = true) : ∀ c ∈ l, c.toNat ≠ 45 := by
  intro c hc
  unfold hexed at h
  rw [Bool.and_eq_true, List.all_eq_true] at h
  have := h.1 c hc
  unfold isHex at this
  simp only [Bool.or_eq_true, Bool.and_eq_true, decide_eq_true_eq] at this
  omega
theorem rev_parts {s : ByteArray} (h : revB s = true) : s.size = 12 ∧ hexed s.data.toList = true := by
  unfold revB at h
  rw [Bool.and_eq_true] at h
  exact ⟨of_decide_eq_true h.1, h.2⟩
theorem byte_bang (p : ByteArray) (j : Nat) (h : j < p.size) : p.data[j]! = p.data[j]'h := getElem!_pos p.data j h

theorem cut_last {p : ByteArray} (h27 : 27 ≤ p.size) (h45 : ((p.data[p.size - 13]!).toNat : Int) = 45) (hr : revB (p.extract (p.size - 12) p.size) = true) :
    cutPre p = ⟨p.extract 0 (p.size - 27), (uns (p.extract (p.size - 27) (p.size - 13))).1, p.extract (p.size - 12) p.size, (uns (p.extract (p.size - 27) (p.size - 13))).2 == 0⟩ := by
  have hno : ∀ j, p.size - 12 ≤ j → j < p.size → ((p.data[j]!).toNat : Int) ≠ 45 := by
    intro j h1 h2
    have hm : p.data[j]! ∈ (p.extract (p.size - 12) p.size).data.toList := by
      rw [byte_bang p j h2, ext_tail]
      rw [List.mem_iff_getElem]
      refine ⟨j - (p.size - 12), by rw [List.length_drop, size_len]; omega, ?_⟩
      rw [List.getElem_drop]
      have : p.size - 12 + (j - (p.size - 12)) = j := by omega
      simp only [this, Array.getElem_toList]
    have := hex_no_hyphen (rev_parts hr).2 _ hm
    omega
  have hi : Lib.lastIndexByte p 45 = ((p.size - 13 : Nat) : Int) := by
    rcases Lib.lastIndexByte_spec p 45 with ⟨_, h⟩ | ⟨i, hi, he, hc, hn⟩
    · exact absurd h45 (h _ (by omega))
    · rw [he]
      have h1 : ¬ i < p.size - 13 := fun hlt => hn _ hlt (by omega) h45
      have h2 : ¬ p.size - 12 ≤ i := fun hge => hno i hge hi hc
      omega
  unfold cutPre
  rw [hi, if_neg (by omega), Int.toNat_natCast]
  unfold cutAt
  rw [show p.size - 13 + 1 = p.size - 12 by omega, show p.size - 13 - 14 = p.size - 27 by omega, hr, if_pos rfl]
theorem cut_else {p : ByteArray} (h : ¬ (27 ≤ p.size ∧ ((p.data[p.size - 13]!).toNat : Int) = 45 ∧ revB (p.extract (p.size - 12) p.size) = true)) : (cutPre p).ok = false := by
  unfold cutPre
  by_cases h1 : Lib.lastIndexByte p 45 < 14
  · rw [if_pos h1]; rfl
  · rw [if_neg h1]
    rcases Lib.lastIndexByte_spec p 45 with ⟨he, _⟩ | ⟨k, hk, he, hc, _⟩
    · omega
    · rw [he, Int.toNat_natCast]
      unfold cutAt
      cases hr : revB (p.extract (k + 1) p.size) with
      | false => rfl
      | true =>
        exfalso
        have h12 := (rev_parts hr).1
        rw [ByteArray.size_extract] at h12
        have e : k = p.size - 13 := by omega
        apply h
        rw [show k + 1 = p.size - 12 by omega] at hr
        rw [← e]
        exact ⟨by omega, hc, hr⟩

/-- what stands ahead of the stamp tells the base -/
def frontR (v : Ver) (f : ByteArray) (t : Int) (id : ByteArray) : Told :=
  if (baseR v f).2 then ⟨(baseR v f).1, t, id, 0⟩ else noTold 3
def rtoldV (v : Ver) : Told :=
  if 0 < v.short then noTold 4 else
  if 27 ≤ v.pre.size ∧ ((v.pre.data[v.pre.size - 13]!).toNat : Int) = 45 ∧ revB (v.pre.extract (v.pre.size - 12) v.pre.size) = true then
    (if (uns (v.pre.extract (v.pre.size - 27) (v.pre.size - 13))).2 == 0 then frontR v (v.pre.extract 0 (v.pre.size - 27)) (uns (v.pre.extract (v.pre.size - 27) (v.pre.size - 13))).1 (v.pre.extract (v.pre.size - 12) v.pre.size) else noTold 3)
  else noTold 3
theorem rtold_eq (v : Ver) : rtoldV v = toldV v := by
  unfold rtoldV toldV
  by_cases h0 : 0 < v.short
  · rw [if_pos h0, if_pos h0]
  · rw [if_neg h0, if_neg h0]
    by_cases h : 27 ≤ v.pre.size ∧ ((v.pre.data[v.pre.size - 13]!).toNat : Int) = 45 ∧ revB (v.pre.extract (v.pre.size - 12) v.pre.size) = true
    · rw [if_pos h, cut_last h.1 h.2.1 h.2.2]
      rfl
    · rw [if_neg h, cut_else h]
      rfl
/-- a prerelease doesn't begin with a full stop -/
theorem pre_first {s : ByteArray} {v : Ver} (h : parseR s = some v) (r : List UInt8) (hp : v.pre.data.toList = 46 :: r) : False := by
  have hr := (ver_right h).pre (by rw [hp]; rfl)
  have e : v.pre = strOf ((⟨#[]⟩ : ByteArray).data.toList ++ 46 :: (strOf r).data.toList) := bytes_ext (by rw [hp]; rfl)
  rw [e, parts_cons (by simp)] at hr
  rw [List.all_cons, Bool.and_eq_true] at hr
  exact absurd hr.1 (by decide)
theorem front_three {s : ByteArray} {v : Ver} {f : Nat} (h : parseR s = some v) (hf : Lib.hasSuffix (v.pre.extract 0 f).data.toList [46, 48, 46] = true) : (v.pre.extract 0 f).size ≠ 3 := by
  intro h3
  have h1 := suf_split hf
  have hl : (v.pre.extract 0 f).data.toList.length = 3 := by rw [size_len]; exact h3
  have h2 : Lib.trimSuffix (v.pre.extract 0 f).data.toList [46, 48, 46] = [] := by
    rw [h1, List.length_append] at hl
    exact List.eq_nil_of_length_eq_zero (by simp at hl ⊢; omega)
  rw [h2] at h1
  rw [list_extract] at h1
  have h4 : v.pre.data.toList = 46 :: (48 :: 46 :: v.pre.data.toList.drop f) := by
    have := List.take_append_drop f v.pre.data.toList
    rw [h1] at this
    exact this.symm
  exact pre_first h _ h4
end Go.Proofs.YtmhjdahmmdfbcaaGreatDoor
namespace Go.Proofs.YtmhjdahmmdfbcaaGreatDoor
open Go.RowKit
/-- texts, in a row of the call's own -/
def strsV (l : List ByteArray) : List Value := l.map Value.string
def OwnS (w : World) (B : Nat) (v : Value) (l : List ByteArray) : Prop := w.ownsRow B 9 1 v l.length (strsV l)
theorem OwnS.push {w : World} {B : Nat} {v : Value} {l : List ByteArray} {x : ByteArray} (h : w.ownsRow B 9 1 v (l.length + 1) (strsV l ++ [.string x])) : OwnS w B v (l ++ [x]) := by
  unfold OwnS strsV
  rw [List.map_append]
  simpa [strsV] using h
theorem cell_new_at (w : World) (v : Value) (t n : Nat) (hn : w.heap.size = n) : ∀ j u, [v][j]? = some u → (w.alloc (.cells #[v] t)).cell? ((⟨n, 0, none⟩ : Addr).add j) = some u := by
  intro j u hj
  subst hn
  rcases j with _ | j
  · simp at hj; subst hj; rw [Addr.add_lit]; simp
  · simp at hj
theorem OwnS.below {w wr w1 : World} {B : Nat} {v : Value} {l : List ByteArray} {o : Obj} (hown : OwnS wr B v l) (hb : Below B w wr) (hB : B ≤ wr.heap.size) (hg : (wr.alloc o).grownBy w1 v.ownBlock) : Below B w w1 :=
  (hb.alloc hB o).grown hg (by simp; omega) (fun k hk => (World.ownsRow.lt hown k hk).1)
def SlRet (w : World) (B : Nat) (l : List ByteArray) (e : Ending) : Prop := ∃ v, OwnS w B v l ∧ e = .returned v
def StrsAt (w : World) (g : Nat) (l : List ByteArray) : Prop := ∀ j (h : j < l.length), w.cell? ⟨g, j, none⟩ = some (.string l[j])
theorem StrsAt.below {w w' : World} {g B : Nat} {l : List ByteArray} (h : StrsAt w g l) (hb : Below B w w') (hB : g < B) : StrsAt w' g l := fun j hj =>
  (hb.cell (p := ⟨g, j, none⟩) hB).trans (h j hj)
theorem OwnS.shape {w : World} {B : Nat} {v : Value} {l : List ByteArray} (h : OwnS w B v l) : ∃ a c, v = .slice a l.length c ∧ (l ≠ [] → ∃ g, a = some ⟨g, 0, none⟩ ∧ B ≤ g ∧ g < w.heap.size ∧ StrsAt w g l) := by
  have h' := h
  rcases h.2 with ⟨hnil, hn⟩ | ⟨g, cap, cur, rfl, hbase, hbk, h1, h2, h3, h4⟩
  · refine ⟨none, 0, by rw [hnil, hn], fun hne => ?_⟩
    exact absurd (List.eq_nil_of_length_eq_zero hn) hne
  · refine ⟨_, cap, rfl, fun _ => ⟨g, rfl, hbase, (Array.getElem?_eq_some_iff.1 hbk).1, fun j hj => ?_⟩⟩
    have := World.ownsRow.cells h' (g := g) rfl j (.string l[j]) (by unfold strsV; simp [hj])
    rw [Addr.add_lit, Nat.zero_add] at this
    exact this
theorem take_one (s : ByteArray) (k : Nat) (h : k < s.size) : s.data.toList.take (k + 1) = s.data.toList.take k ++ [s[k]] := by
  rw [List.take_succ_eq_append_getElem (by simpa using h)]; rfl
theorem index_app (c : UInt8) (p q : List UInt8) (h : c ∉ p) : Lib.indexByte (p ++ c :: q) c = (p.length : Int) := (split_some (splitC_app h)).1
theorem index_none (c : UInt8) (l : List UInt8) (h : c ∉ l) : Lib.indexByte l c = -1 := by
  induction l with
  | nil => rfl
  | cons b l ih =>
    have h1 : b ≠ c := fun e => h (by simp [e])
    unfold Lib.indexByte
    rw [if_neg (by simpa using h1), ih (fun hc => h (by simp [hc]))]
    rfl
theorem split_at (s : ByteArray) (k : Nat) (h : k < s.size) : s.data.toList = s.data.toList.take k ++ s[k] :: s.data.toList.drop (k + 1) := by
  have h1 : k < s.data.toList.length := by simpa using h
  rw [show s[k] = s.data.toList[k] from rfl, ← List.drop_eq_getElem_cons h1, List.take_append_drop]
set_option maxHeartbeats 1600000 in
theorem find_any (s : ByteArray) (c : UInt8) (w : World) (hs : s.size ≤ 9223372036854775807) :
    Calls Tryz.prog 38 #[.string s, .int .u8 (c.toNat : Int)] w fun e w' => e = .returned (.int .i64 (Lib.indexByte s.data.toList c)) ∧ w' = w := by
  go_enter Tryz.func38, Tryz.ntmps38
  go_wp2
  go_loopw [5] (fun i wr => ∃ (k : Nat), k ≤ s.size ∧ i = .int .i64 k ∧ c ∉ s.data.toList.take k ∧ wr = w) (fun i _ => s.size - (intOf i).toNat)
  case atStart => exact ⟨0, Nat.zero_le _, rfl, by simp, rfl⟩
  case round =>
    obtain ⟨k, hk, rfl, hd, rfl⟩ := hrel
    have HD := hidM hd
    clear hd
    by_cases hlt : k < s.size
    · have kk : (k : Int) < (s.size : Int) := by omega
      by_cases he : s[k] = c
      · have HI : Hid (Lib.indexByte s.data.toList c = (k : Int)) := by
          unfold Hid
          have h := index_app c (s.data.toList.take k) (s.data.toList.drop (k + 1)) HD.out
          rw [← he] at h
          rw [← split_at s k hlt, he] at h
          rw [h, List.length_take]
          have : s.data.toList.length = s.size := by simp
          rw [Nat.min_eq_left (by omega)]
        have e1 : (s[k].toNat : Int) = (c.toNat : Int) := by rw [he]
        clear he
        go_wp2
        go_ret
        exact ⟨by rw [HI.out]; rfl, rfl⟩
      · have HX : Hid (c ∉ s.data.toList.take (k + 1)) := by
          unfold Hid
          rw [take_one s k hlt]
          intro h
          rcases List.mem_append.1 h with h | h
          · exact HD.out h
          · rw [List.mem_singleton] at h; exact he h.symm
        have e1 : ¬ (s[k].toNat : Int) = (c.toNat : Int) := fun h => he (by rw [← UInt8.toNat_inj]; omega)
        have e2 : ((s[k].toNat : Int) == (c.toNat : Int)) = false := beq_false_of_ne e1
        clear he
        go_wp2
        go_roundw
        case rel => exact ⟨k + 1, by omega, by go_num, HX.out, trivial⟩
        case measure => (show s.size - ((k : Int) + 1).toNat < s.size - ((k : Int)).toNat); omega
    · obtain rfl : k = s.size := by omega
      have HI : Hid (Lib.indexByte s.data.toList c = -1) := index_none c _ (by
        have := HD.out
        rwa [List.take_of_length_le (by rw [size_len]; omega)] at this)
      go_wp2
      go_ret
      exact ⟨by rw [HI.out]; rfl, rfl⟩
/-- the parts that the loop of Cut has made of the first k bytes -/
def cuB (c : UInt8) (s : ByteArray) (k : Nat) : List ByteArray := (cutL c (s.data.toList.take k)).map strOf
theorem cut_next (c : UInt8) (s : ByteArray) (k : Nat) (h : k < s.size) : cutL c (s.data.toList.take (k + 1)) = stepL c (cutL c (s.data.toList.take k)) s[k] := by
  rw [take_one s k h, ← fold_whole, ← fold_whole, List.foldl_append]
  rfl
theorem cuB_hit (c : UInt8) (s : ByteArray) (k : Nat) (h : k < s.size) (hc : s[k] = c) : cuB c s (k + 1) = cuB c s k ++ [⟨#[]⟩] := by
  unfold cuB
  rw [cut_next c s k h]
  unfold stepL
  rw [if_pos hc, List.map_append]
  rfl
theorem one_byte (s : ByteArray) (k : Nat) (h : k < s.size) : (s.extract k (k + 1)).data.toList = [s[k]] := by
  rw [Lib.extract_data]
  have hl : k < s.data.toList.length := by rw [← Lib.size_eq]; exact h
  rw [List.drop_eq_getElem_cons hl]
  simp
  rfl
theorem cuB_other (c : UInt8) (s : ByteArray) (k : Nat) (h : k < s.size) (hc : s[k] ≠ c) : ∃ I Z, cuB c s k = I ++ [Z] ∧ cuB c s (k + 1) = I ++ [Z ++ s.extract k (k + 1)] := by
  have hn := cutL_ne c (s.data.toList.take k)
  unfold cuB
  rw [cut_next c s k h]
  generalize cutL c (s.data.toList.take k) = L at *
  refine ⟨L.dropLast.map strOf, strOf (L.getLastD []), ?_, ?_⟩
  · conv => lhs; rw [← List.dropLast_concat_getLast hn]
    rw [List.map_append, List.getLastD_eq_getLast?, List.getLast?_eq_some_getLast hn]
    rfl
  · unfold stepL
    rw [if_neg hc, List.map_append]
    congr 1
    simp only [List.map_cons, List.map_nil, List.cons.injEq, and_true]
    refine bytes_ext ?_
    rw [ByteArray.data_append, Array.toList_append, one_byte s k h]
    rfl
theorem cuB_size (c : UInt8) (s : ByteArray) (k : Nat) : ∀ x ∈ cuB c s k, x.size ≤ k := by
  intro x hx
  unfold cuB at hx
  obtain ⟨l, hl, rfl⟩ := List.mem_map.1 hx
  have h1 := cutL_size c _ l hl
  have h2 : (s.data.toList.take k).length ≤ k := by rw [List.length_take]; omega
  rw [strOf_size]; omega
theorem cuB_len (c : UInt8) (s : ByteArray) (k : Nat) : (cuB c s k).length ≤ k + 1 ∧ 0 < (cuB c s k).length := by
  unfold cuB
  rw [List.length_map]
  have h1 := cutL_len c (s.data.toList.take k)
  have h2 : (s.data.toList.take k).length ≤ k := by rw [List.length_take]; omega
  exact ⟨by omega, List.length_pos_iff.2 (cutL_ne _ _)⟩
/-- the parts of a text between the bytes c -/
def cutB (c : UInt8) (s : ByteArray) : List ByteArray := (cutL c s.data.toList).map strOf
theorem cuB_all (c : UInt8) (s : ByteArray) : cuB c s s.size = cutB c s := by
  unfold cuB cutB
  rw [List.take_of_length_le (by rw [size_len]; exact Nat.le_refl _)]
theorem cutB_parts (s : ByteArray) : cutB 46 s = partsB s := (parts_eq s).symm
set_option maxHeartbeats 1600000 in
theorem rcut_any (s : ByteArray) (c : UInt8) (w : World) (hs : s.size ≤ 1000000) :
    Calls Tryz.prog 40 #[.string s, .int .u8 (c.toNat : Int)] w fun e w' => SlRet w' w.heap.size (cutB c s) e ∧ Below w.heap.size w w' := by
  obtain ⟨i0, hi, hz0, hz1, hz2⟩ := info_parts info9
  go_enter Tryz.func40, Tryz.ntmps40
  go_wp2_with fail
  have HO0 : Hid (OwnS (w.alloc (.cells #[.string ⟨#[]⟩] 9)) w.heap.size (.slice (some ⟨w.heap.size, 0, none⟩) 1 1) (cuB c s 0)) :=
    ⟨by simp [cuB, cutL, strsV], .inr ⟨w.heap.size, 1, #[.string ⟨#[]⟩], rfl, Nat.le_refl _, heap_alloc_new w _, Nat.le_refl _, by simp [maxLen], rfl, rfl⟩⟩
  go_loopw [5, 6] (fun v i wr => ∃ (k : Nat), k ≤ s.size ∧ i = .int .i64 k ∧ OwnS wr w.heap.size v (cuB c s k) ∧ Below w.heap.size w wr) (fun _ i _ => s.size - (intOf i).toNat)
  case atStart => exact ⟨0, Nat.zero_le _, rfl, HO0.out, (Below.refl _ _).alloc (Nat.le_refl _) _⟩
  case round =>
    obtain ⟨k, hk, rfl, hown, hbr⟩ := hrel
    have HO := hidM hown
    have HB := hidM hbr
    have hsz := hbr.size
    clear hown hbr HO0
    have hln := cuB_len c s k
    by_cases hlt : k < s.size
    · have kk : (k : Int) < (s.size : Int) := by omega
      by_cases h47 : s[k] = c
      · have HT := hidM (cuB_hit c s k hlt h47)
        have r47 : (s[k].toNat : Int) = (c.toNat : Int) := by rw [h47]
        generalize cuB c s k = L at *
        clear h47
        go_wp2_with (first
          | (at_builtin; refine wpList_append_own _ rfl _ _ 47 rfl w.heap.size 9 i0 (.string .empty) 1 16 Tryz.underlying47 hi hz0 hz1 hz2 rfl (by decide) _ _ _ rfl (World.ownsRow.alloc HO.out _) ⟨wr.heap.size, 0, none⟩ 1 1 [.string ⟨#[]⟩] ?d0 rfl ?d1 ?d2 ?d3 ?d4 ?d5 ?_))
        case d0 => rfl
        case d1 => exact cell_new_at _ _ _ _ rfl
        case d2 => intro u hu; simp at hu; subst hu; rfl
        case d3 => unfold maxLen; omega
        case d4 => omega
        case d5 => simp; omega
        intro v' w2 hown' hgrow _
        have HO2 := hidM (OwnS.push hown')
        have HB3 := hidM (OwnS.below HO.out HB.out hsz hgrow)
        clear hown' hgrow
        go_wp2_with fail
        go_roundw
        case rel => exact ⟨k + 1, by omega, by go_num, by rw [HT.out]; exact HO2.out, HB3.out⟩
        case measure => (show s.size - ((k : Int) + 1).toNat < s.size - ((k : Int)).toNat); omega
      · have qn : ¬ (s[k].toNat : Int) = (c.toNat : Int) := fun h => h47 (by rw [← UInt8.toNat_inj]; omega)
        have qc : ((s[k].toNat : Int) == (c.toNat : Int)) = false := beq_false_of_ne qn
        obtain ⟨I, Z, h1, h2⟩ := cuB_other c s k hlt h47
        have HT := hidM h2
        have hzs := cuB_size c s k Z (by rw [h1]; simp)
        rw [h1] at HO hln
        clear h1 h2 h47
        obtain ⟨a, cp, rfl, hsh⟩ := HO.out.shape
        obtain ⟨g, rfl, hg1, hg2, hst⟩ := hsh (by simp)
        obtain ⟨m, hm⟩ : ∃ m, m = I.length := ⟨_, rfl⟩
        have hLm : (I ++ [Z]).length = m + 1 := by rw [hm]; simp
        have cm : wr.cell? ⟨g, m, none⟩ = some (.string Z) := by
          have := hst m (by rw [hLm]; omega)
          rw [this]; simp [hm]
        have fz : wr.frozen? ⟨g, m, none⟩ = false := World.ownsRow.frozenAt HO.out m
        have HO' : Hid (wr.ownsRow w.heap.size 9 1 (.slice (some ⟨g, 0, none⟩) (m + 1) cp) (m + 1) (strsV (I ++ [Z]))) := by
          have := HO.out
          unfold OwnS at this
          rw [hLm] at this
          exact this
        have HST : Hid (∀ (W : World) (x : ByteArray), W.ownsRow w.heap.size 9 1 (.slice (some ⟨g, 0, none⟩) (m + 1) cp) (m + 1) ((strsV (I ++ [Z])).set m (.string x)) → OwnS W w.heap.size (.slice (some ⟨g, 0, none⟩) (m + 1) cp) (I ++ [x])) := fun W x h => by
          unfold OwnS
          have e1 : (I ++ [x]).length = m + 1 := by rw [hm]; simp
          have e2 : (strsV (I ++ [Z])).set m (.string x) = strsV (I ++ [x]) := by
            unfold strsV
            rw [List.map_append, List.map_append, List.set_append_right _ _ (by simp [hm])]
            simp [hm]
          rw [e1, ← e2]; exact h
        have hlm : m ≤ k := by have := hln.1; omega
        rw [hLm]
        have j1 : ((m + 1 : Nat) : Int) - 1 = (m : Int) := by omega
        have j2 : (m : Int) < ((m + 1 : Nat) : Int) := by omega
        have j3 : (k : Int) + 1 = ((k + 1 : Nat) : Int) := by omega
        have j4 : ((k + 1 : Nat) : Int) ≤ (s.size : Int) := by omega
        have j5 : (k : Int) ≤ ((k + 1 : Nat) : Int) := by omega
        have hes : (s.extract k (k + 1)).size ≤ 1 := by rw [ByteArray.size_extract]; omega
        clear hsh hst hLm hln HO hm
        generalize m + 1 = m1 at *
        generalize k + 1 = k1 at *
        go_wp2_with fail
        go_region
        have HSD := hidM (World.ownsRow.stored HO'.out m (.string (Z ++ s.extract k k1)))
        have HO2 : Hid (OwnS (wr.setCell ⟨g, m, none⟩ (.string (Z ++ s.extract k k1))).drew w.heap.size (.slice (some ⟨g, 0, none⟩) m1 cp) (I ++ [Z ++ s.extract k k1])) := HST.out _ _ HSD.out.1.drew
        have HB2 : Hid (Below w.heap.size w (wr.setCell ⟨g, m, none⟩ (.string (Z ++ s.extract k k1))).drew) := below_drewN (HB.out.grown HSD.out.2 hsz (fun j hj => by cases hj; exact hg1)) 1
        generalize (wr.setCell ⟨g, m, none⟩ (.string (Z ++ s.extract k k1))).drew = w2 at *
        clear HSD cm fz HO' HST
        go_wp2_with fail
        go_roundw
        case rel => exact ⟨k1, by omega, by go_num, by rw [HT.out]; exact HO2.out, HB2.out⟩
        case measure => (show s.size - ((k1 : Int)).toNat < s.size - ((k : Int)).toNat); omega
    · obtain rfl : k = s.size := by omega
      go_wp2_with fail
      go_ret
      exact ⟨⟨_, by rw [← cuB_all]; exact HO.out, rfl⟩, HB.out⟩
end Go.Proofs.YtmhjdahmmdfbcaaGreatDoor
namespace Go.Proofs.YtmhjdahmmdfbcaaGreatDoor
open Go.RowKit
set_option maxHeartbeats 1000000 in
set_option maxRecDepth 100000 in
theorem rdigits_any (s : ByteArray) (w : World) (hs : s.size ≤ 9223372036854775807) : Calls Tryz.prog 63 #[.string s] w fun e w' => e = .returned (.bool (digL s.data.toList)) ∧ w' = w := by
  have HE := hidM (empty_beq s)
  go_enter Tryz.func63, Tryz.ntmps63
  go_wp2
  go_loopw [3] (fun iv wr => ∃ k : Nat, k ≤ s.size ∧ iv = .int .i64 (k : Int) ∧ (∀ j (hj : j < s.size), j < k → digC s[j] = true) ∧ w = wr) (fun i _ => s.size - (intOf i).toNat)
  case atStart => exact ⟨0, Nat.zero_le _, rfl, fun j _ hj => by omega, rfl⟩
  case round =>
    obtain ⟨k, hk, rfl, hno, hwr⟩ := hrel
    subst hwr
    have HNO := hidM hno
    clear hno
    by_cases hlt : k < s.size
    · have gk : (k : Int) < (s.size : Int) := by omega
      by_cases h1 : s[k].toNat < 48
      · have b1 : decide ((s[k].toNat : Int) < 48) = true := by simp; omega
        have HR : Hid (digL s.data.toList = false) := by unfold Hid digL; rw [all_no hlt (by unfold digC; simp; omega)]; rfl
        go_wp2
        go_ret
        exact ⟨by rw [HR.out]; rfl, rfl⟩
      · have b1 : decide ((s[k].toNat : Int) < 48) = false := by simp; omega
        by_cases h2 : 57 < s[k].toNat
        · have b2 : decide ((57 : Int) < (s[k].toNat : Int)) = true := by simp; omega
          have HR : Hid (digL s.data.toList = false) := by unfold Hid digL; rw [all_no hlt (by unfold digC; simp; omega)]; rfl
          go_wp2
          go_ret
          exact ⟨by rw [HR.out]; rfl, rfl⟩
        · have b2 : decide ((57 : Int) < (s[k].toNat : Int)) = false := by simp; omega
          have HNX : Hid (∀ j (hj : j < s.size), j < k + 1 → digC s[j] = true) := fun j hj hjk => by
            rcases Nat.lt_or_ge j k with h | h
            · exact HNO.out j hj h
            · obtain rfl : j = k := by omega
              unfold digC; simp; omega
          go_wp2
          go_roundw
          case rel => exact ⟨k + 1, by omega, by go_num, HNX.out, by first | rfl | trivial⟩
          case measure => simp [intOf]; omega
    · have gk : ¬ (k : Int) < (s.size : Int) := by omega
      have HR : Hid (digL s.data.toList = decide (0 < s.size)) := by
        unfold Hid digL
        rw [all_yes (fun j hj => HNO.out j hj (by omega))]
        rw [Bool.true_and, ← size_len]
        cases s.data.toList <;> simp
      by_cases h0 : 0 < s.size
      · have b0 : decide ((0 : Int) < (s.size : Int)) = true := by simp; omega
        rw [decide_eq_true h0] at HR
        go_wp2
        go_ret
        exact ⟨by rw [HR.out]; rfl, rfl⟩
      · have b0 : decide ((0 : Int) < (s.size : Int)) = false := decide_eq_false (by omega)
        rw [decide_eq_false h0] at HR
        go_wp2
        go_ret
        exact ⟨by rw [HR.out]; rfl, rfl⟩
set_option maxHeartbeats 1000000 in
set_option maxRecDepth 100000 in
theorem rnumber_any (s : ByteArray) (w : World) (hs : s.size ≤ 9223372036854775807) : Calls Tryz.prog 31 #[.string s] w fun e w' => e = .returned (.bool (numL s.data.toList)) ∧ w' = w := by
  have HD := hidM (rdigits_any s w hs)
  have HR : Hid (numL s.data.toList = (digL s.data.toList && (s.data.toList.length == 1 || s.data.toList.getD 0 0 != 48))) := rfl
  cases hd : digL s.data.toList with
  | false =>
    rw [hd] at HD HR
    clear hd
    go_enter Tryz.func31, Tryz.ntmps31
    go_wp2_with fail
    refine HD.out.mono ?_
    rintro _ _ ⟨rfl, rfl⟩
    go_wp2
    go_ret
    exact ⟨by rw [HR.out]; rfl, rfl⟩
  | true =>
    have hpos : 0 < s.size := by
      rw [← size_len]
      unfold digL at hd
      cases hl : s.data.toList with
      | nil => rw [hl] at hd; cases hd
      | cons _ _ => simp
    have h0 : s.data.toList.getD 0 0 = s[0] := by rw [List.getD_eq_getElem?_getD, ba_list s 0 hpos]; rfl
    rw [hd, h0, size_len] at HR
    rw [hd] at HD
    clear hd h0
    have p0 : (0 : Int) < (s.size : Int) := by omega
    by_cases h1 : s.size = 1
    · have b1 : ((s.size : Int) == 1) = true := by simp; omega
      have b2 : (s.size == 1) = true := by simp; omega
      have HF : Hid (numL s.data.toList = true) := by unfold Hid; rw [HR.out, b2]; rfl
      go_enter Tryz.func31, Tryz.ntmps31
      go_wp2_with fail
      refine HD.out.mono ?_
      rintro _ _ ⟨rfl, rfl⟩
      go_wp2
      go_ret
      exact ⟨by rw [HF.out]; rfl, rfl⟩
    · have b1 : ((s.size : Int) == 1) = false := by simp; omega
      have b2 : (s.size == 1) = false := by simp; omega
      rw [b2] at HR
      by_cases h48 : s[0] = 48
      · have b3 : ((s[0].toNat : Int) == 48) = true := by rw [h48]; rfl
        have b4 : ((s[0].toNat : Int) != 48) = false := by rw [h48]; rfl
        have HF : Hid (numL s.data.toList = false) := by unfold Hid; rw [HR.out, h48]; rfl
        clear h48
        go_enter Tryz.func31, Tryz.ntmps31
        go_wp2_with fail
        refine HD.out.mono ?_
        rintro _ _ ⟨rfl, rfl⟩
        go_wp2
        go_ret
        exact ⟨by rw [HF.out]; rfl, rfl⟩
      · have h48n : ¬ s[0].toNat = 48 := fun e => h48 (UInt8.toNat_inj.1 (by rw [e]; rfl))
        have b3 : ((s[0].toNat : Int) == 48) = false := by simp; omega
        have b4 : ((s[0].toNat : Int) != 48) = true := by simp; omega
        have HF : Hid (numL s.data.toList = true) := by unfold Hid; rw [HR.out]; simp [h48]
        clear h48
        go_enter Tryz.func31, Tryz.ntmps31
        go_wp2_with fail
        refine HD.out.mono ?_
        rintro _ _ ⟨rfl, rfl⟩
        go_wp2
        go_ret
        exact ⟨by rw [HF.out]; rfl, rfl⟩
theorem less_cmp (a : List UInt8) : ∀ b, Op.bytesLess a b = decide (Lib.compareBytes a b = -1) := by
  induction a with
  | nil => intro b; cases b <;> rfl
  | cons x a ih =>
    intro b
    cases b with
    | nil => rfl
    | cons y b =>
      rw [cmp_cons]
      show (decide (x < y) || (x == y && Op.bytesLess a b)) = _
      rw [ih b]
      by_cases h1 : x.toNat < y.toNat
      · rw [if_pos h1, decide_eq_true ((u8_lt x y).2 h1)]; rfl
      · rw [if_neg h1, decide_eq_false (fun h => h1 ((u8_lt x y).1 h))]
        by_cases h2 : y.toNat < x.toNat
        · rw [if_pos h2]
          have : (x == y) = false := by rw [beq_eq_false_iff_ne]; intro e; rw [e] at h2; omega
          rw [this]; rfl
        · rw [if_neg h2]
          have : x = y := by rw [← UInt8.toNat_inj]; omega
          rw [this]; simp
theorem zero_app (j : Nat) (l : List UInt8) : (⟨#[48]⟩ : ByteArray) ++ strOf (List.replicate j 48 ++ l) = strOf (List.replicate (j + 1) 48 ++ l) := bytes_ext (by
  rw [ByteArray.data_append, Array.toList_append, List.replicate_succ]
  rfl)
end Go.Proofs.YtmhjdahmmdfbcaaGreatDoor
namespace Go.Proofs.YtmhjdahmmdfbcaaGreatDoor
open Go.RowKit
/-- is it a word, of a prerelease or of a build -/
def wdL (pre : Bool) (l : List UInt8) : Bool := if pre then preL l else wordL l
def wordQ (n : Nat) : Bool := decide (48 ≤ n ∧ n ≤ 57) || decide (97 ≤ n ∧ n ≤ 122) || decide (65 ≤ n ∧ n ≤ 90) || decide (n = 45)
theorem wordQ_eq (c : UInt8) : wordC c = wordQ c.toNat := by
  unfold wordC digC letC wordQ
  have : (c == 45) = decide (c.toNat = 45) := by
    rw [Bool.eq_iff_iff, beq_iff_eq, decide_eq_true_eq, ← UInt8.toNat_inj]; rfl
  rw [this, Bool.or_assoc, Bool.or_assoc, Bool.or_assoc, Bool.or_assoc]
theorem byte_cls (n : Nat) (h : n < 256) : (n ≤ 44) ∨ (45 ≤ n ∧ n ≤ 45) ∨ (46 ≤ n ∧ n ≤ 47) ∨ (48 ≤ n ∧ n ≤ 57) ∨ (58 ≤ n ∧ n ≤ 64) ∨ (65 ≤ n ∧ n ≤ 90) ∨ (91 ≤ n ∧ n ≤ 96) ∨ (97 ≤ n ∧ n ≤ 122) ∨ (123 ≤ n) := by omega
theorem wd_word {pre : Bool} {l : List UInt8} (h : wdL pre l = true) : wordL l = true := by
  unfold wdL preL at h
  cases pre with
  | true => simp only [if_true, Bool.and_eq_true] at h; exact h.1
  | false => exact h
theorem wd_full {pre : Bool} {l : List UInt8} (h : wordL l = true) (hp : (pre && digL l && !numL l) = false) : wdL pre l = true := by
  unfold wdL preL
  cases pre with
  | false => exact h
  | true =>
    rw [if_pos rfl, h]
    revert hp
    cases digL l <;> cases numL l <;> simp
theorem wd_bad {pre : Bool} {l : List UInt8} (hp : (pre && digL l && !numL l) = true) : wdL pre l = false := by
  unfold wdL preL
  cases pre with
  | false => cases hp
  | true =>
    rw [if_pos rfl]
    revert hp
    cases digL l <;> cases numL l <;> simp
set_option maxHeartbeats 4000000 in
set_option maxRecDepth 100000 in
theorem words_any (s : ByteArray) (pre : Bool) (w : World) (hs : s.size ≤ 200) :
    Calls Tryz.prog 39 #[.string s, .bool pre] w fun e w' => e = .returned (.bool ((partsB s).all fun x => wdL pre x.data.toList)) ∧ Below w.heap.size w w' := by
  have HS := hidM (rcut_any s 46 w (by omega))
  rw [cutB_parts] at HS
  have HSZ : Hid (∀ x ∈ partsB s, x.size ≤ 200) := fun x hx => by have := parts_size hx; omega
  have hl : (partsB s).length ≤ 201 := by have := parts_len s; omega
  have hne : partsB s ≠ [] := by rw [parts_eq]; intro h; exact cutL_ne _ _ (List.map_eq_nil_iff.1 h)
  generalize partsB s = ps at *
  go_enter Tryz.func39, Tryz.ntmps39
  go_wp2_with fail
  refine HS.out.mono ?_
  rintro _ w1 ⟨⟨v, hown, rfl⟩, hb1⟩
  obtain ⟨a, cp, rfl, hsh⟩ := hown.shape
  obtain ⟨g, rfl, hg1, hg2, hst⟩ := hsh hne
  have HC := hidM hst
  have HBE := hidM hb1
  clear hst hb1 hsh hown HS
  go_wp2
  go_loopw [6, 7, 8, 12] (fun _ _ _ iv wr => ∃ k : Nat, k ≤ ps.length ∧ iv = .int .i64 (k : Int) ∧ (∀ j (hj : j < ps.length), j < k → wdL pre ps[j].data.toList = true) ∧ w1 = wr) (fun _ _ _ i _ => ps.length - (intOf i).toNat)
  case atStart => exact ⟨0, Nat.zero_le _, rfl, fun j _ hj => by omega, rfl⟩
  case round =>
    obtain ⟨kk, hkk, rfl, hno, hwr⟩ := hrel
    subst hwr
    have HNO := hidM hno
    clear hno
    by_cases hlt : kk < ps.length
    · have gk : (kk : Int) < (ps.length : Int) := by omega
      have ck := HC.out kk hlt
      have hxs := HSZ.out ps[kk] (List.getElem_mem hlt)
      have HBAD : Hid (wordL ps[kk].data.toList = false → (ps.all fun x => wdL pre x.data.toList) = false) := fun h => by
        rw [List.all_eq_false]
        refine ⟨ps[kk], List.getElem_mem hlt, fun hw => ?_⟩
        rw [wd_word hw] at h; cases h
      have HBAD2 : Hid (wdL pre ps[kk].data.toList = false → (ps.all fun x => wdL pre x.data.toList) = false) := fun h => by
        rw [List.all_eq_false]
        exact ⟨ps[kk], List.getElem_mem hlt, by rw [h]; exact Bool.false_ne_true⟩
      have HNX : Hid (wdL pre ps[kk].data.toList = true → ∀ j (hj : j < ps.length), j < kk + 1 → wdL pre ps[j].data.toList = true) := fun h j hj hjk => by
        rcases Nat.lt_or_ge j kk with h2 | h2
        · exact HNO.out j hj h2
        · obtain rfl : j = kk := by omega
          exact h
      clear HNO
      generalize ps[kk] = x at *
      have he := empty_beq x
      have HDG := hidM (rdigits_any x w1 (by omega))
      have HNM := hidM (rnumber_any x w1 (by omega))
      cases h0 : x.data.toList.isEmpty with
      | true =>
        rw [h0] at he
        have HR : Hid ((ps.all fun x => wdL pre x.data.toList) = false) := HBAD.out (by unfold wordL; rw [h0]; simp)
        clear h0 HBAD HBAD2 HNX
        go_wp2
        go_ret
        exact ⟨by rw [HR.out]; rfl, HBE.out⟩
      | false =>
        rw [h0] at he
        have HNE : Hid (x.data.toList.isEmpty = false) := h0
        clear h0
        have HGO : Hid ((pre && digL x.data.toList && !numL x.data.toList) = false → wordL x.data.toList = true → ∀ j (hj : j < ps.length), j < kk + 1 → wdL pre ps[j].data.toList = true) := fun h1 h2 => HNX.out (wd_full h2 h1)
        have HB3 : Hid ((pre && digL x.data.toList && !numL x.data.toList) = true → (ps.all fun x => wdL pre x.data.toList) = false) := fun h => HBAD2.out (wd_bad h)
        clear HNX HBAD2
        have HWL : Hid ((∀ j (hj : j < x.size), wordC x[j] = true) → wordL x.data.toList = true) := fun h => by unfold wordL; rw [all_yes h, HNE.out]; rfl
        have HWN : Hid (∀ k (hk : k < x.size), wordC x[k] = false → wordL x.data.toList = false) := fun k hk h => by unfold wordL; rw [all_no hk h]; rfl
        generalize digL x.data.toList = dg at *
        generalize numL x.data.toList = nm at *
        cases pre with
        | false =>
          have HGX := hidM (HGO.out rfl)
          clear HGO HB3 HDG HNM HNE
          go_wp2
          go_loopw [7, 8] (fun iv _ wr => ∃ k : Nat, k ≤ x.size ∧ iv = .int .i64 (k : Int) ∧ (∀ j (hj : j < x.size), j < k → wordC x[j] = true) ∧ w1 = wr) (fun i _ _ => x.size - (intOf i).toNat)
          case atStart => exact ⟨0, Nat.zero_le _, rfl, fun j _ hj => by omega, rfl⟩
          case round =>
            obtain ⟨k, hk, rfl, hno, hwr⟩ := hrel
            subst hwr
            have HNO := hidM hno
            clear hno
            by_cases hlt2 : k < x.size
            · have gk2 : (k : Int) < (x.size : Int) := by omega
              have HYES : Hid (wordQ x[k].toNat = true → ∀ j (hj : j < x.size), j < k + 1 → wordC x[j] = true) := fun h j hj hjk => by
                rcases Nat.lt_or_ge j k with h2 | h2
                · exact HNO.out j hj h2
                · obtain rfl : j = k := by omega
                  rw [wordQ_eq]; exact h
              have HNOT : Hid (wordQ x[k].toNat = false → wordL x.data.toList = false) := fun h => HWN.out k hlt2 (by rw [wordQ_eq]; exact h)
              have hn : x[k].toNat < 256 := UInt8.toNat_lt _
              clear HNO HWL HWN HGX
              generalize hnn : x[k].toNat = n at *
              have hnI : (x[k].toNat : Int) = (n : Int) := by omega
              clear hnn
              rcases byte_cls n hn with hc | hc | hc | hc | hc | hc | hc | hc | hc
              · as_aux_lemma =>
                have c0 : decide ((48 : Int) ≤ (n : Int)) = false := decide_eq_false (by omega)
                have c1 : decide ((n : Int) ≤ (57 : Int)) = true := decide_eq_true (by omega)
                have c2 : decide ((97 : Int) ≤ (n : Int)) = false := decide_eq_false (by omega)
                have c3 : decide ((n : Int) ≤ (122 : Int)) = true := decide_eq_true (by omega)
                have c4 : decide ((65 : Int) ≤ (n : Int)) = false := decide_eq_false (by omega)
                have c5 : decide ((n : Int) ≤ (90 : Int)) = true := decide_eq_true (by omega)
                have c6 : ((n : Int) == 45) = false := by simp; omega
                have HW := hidM (HNOT.out (by unfold wordQ; simp; omega))
                have HR := hidM (HBAD.out HW.out)
                clear hc HYES HNOT HBAD HW
                go_wp2
                go_ret
                exact ⟨by rw [HR.out]; rfl, HBE.out⟩
              · as_aux_lemma =>
                have c0 : decide ((48 : Int) ≤ (n : Int)) = false := decide_eq_false (by omega)
                have c1 : decide ((n : Int) ≤ (57 : Int)) = true := decide_eq_true (by omega)
                have c2 : decide ((97 : Int) ≤ (n : Int)) = false := decide_eq_false (by omega)
                have c3 : decide ((n : Int) ≤ (122 : Int)) = true := decide_eq_true (by omega)
                have c4 : decide ((65 : Int) ≤ (n : Int)) = false := decide_eq_false (by omega)
                have c5 : decide ((n : Int) ≤ (90 : Int)) = true := decide_eq_true (by omega)
                have c6 : ((n : Int) == 45) = true := by simp; omega
                have HNX : Hid (∀ j (hj : j < x.size), j < k + 1 → wordC x[j] = true) := HYES.out (by unfold wordQ; simp; omega)
                clear hc HYES HNOT
                go_wp2
                go_roundw
                case rel => exact ⟨k + 1, by omega, by go_num, HNX.out, by first | rfl | trivial⟩
                case measure => simp [intOf]; omega
              · as_aux_lemma =>
                have c0 : decide ((48 : Int) ≤ (n : Int)) = false := decide_eq_false (by omega)
                have c1 : decide ((n : Int) ≤ (57 : Int)) = true := decide_eq_true (by omega)
                have c2 : decide ((97 : Int) ≤ (n : Int)) = false := decide_eq_false (by omega)
                have c3 : decide ((n : Int) ≤ (122 : Int)) = true := decide_eq_true (by omega)
                have c4 : decide ((65 : Int) ≤ (n : Int)) = false := decide_eq_false (by omega)
                have c5 : decide ((n : Int) ≤ (90 : Int)) = true := decide_eq_true (by omega)
                have c6 : ((n : Int) == 45) = false := by simp; omega
                have HW := hidM (HNOT.out (by unfold wordQ; simp; omega))
                have HR := hidM (HBAD.out HW.out)
                clear hc HYES HNOT HBAD HW
                go_wp2
                go_ret
                exact ⟨by rw [HR.out]; rfl, HBE.out⟩
              · as_aux_lemma =>
                have c0 : decide ((48 : Int) ≤ (n : Int)) = true := decide_eq_true (by omega)
                have c1 : decide ((n : Int) ≤ (57 : Int)) = true := decide_eq_true (by omega)
                have c2 : decide ((97 : Int) ≤ (n : Int)) = false := decide_eq_false (by omega)
                have c3 : decide ((n : Int) ≤ (122 : Int)) = true := decide_eq_true (by omega)
                have c4 : decide ((65 : Int) ≤ (n : Int)) = false := decide_eq_false (by omega)
                have c5 : decide ((n : Int) ≤ (90 : Int)) = true := decide_eq_true (by omega)
                have c6 : ((n : Int) == 45) = false := by simp; omega
                have HNX : Hid (∀ j (hj : j < x.size), j < k + 1 → wordC x[j] = true) := HYES.out (by unfold wordQ; simp; omega)
                clear hc HYES HNOT
                go_wp2
                go_roundw
                case rel => exact ⟨k + 1, by omega, by go_num, HNX.out, by first | rfl | trivial⟩
                case measure => simp [intOf]; omega
              · as_aux_lemma =>
                have c0 : decide ((48 : Int) ≤ (n : Int)) = true := decide_eq_true (by omega)
                have c1 : decide ((n : Int) ≤ (57 : Int)) = false := decide_eq_false (by omega)
                have c2 : decide ((97 : Int) ≤ (n : Int)) = false := decide_eq_false (by omega)
                have c3 : decide ((n : Int) ≤ (122 : Int)) = true := decide_eq_true (by omega)
                have c4 : decide ((65 : Int) ≤ (n : Int)) = false := decide_eq_false (by omega)
                have c5 : decide ((n : Int) ≤ (90 : Int)) = true := decide_eq_true (by omega)
                have c6 : ((n : Int) == 45) = false := by simp; omega
                have HW := hidM (HNOT.out (by unfold wordQ; simp; omega))
                have HR := hidM (HBAD.out HW.out)
                clear hc HYES HNOT HBAD HW
                go_wp2
                go_ret
                exact ⟨by rw [HR.out]; rfl, HBE.out⟩
              · as_aux_lemma =>
                have c0 : decide ((48 : Int) ≤ (n : Int)) = true := decide_eq_true (by omega)
                have c1 : decide ((n : Int) ≤ (57 : Int)) = false := decide_eq_false (by omega)
                have c2 : decide ((97 : Int) ≤ (n : Int)) = false := decide_eq_false (by omega)
                have c3 : decide ((n : Int) ≤ (122 : Int)) = true := decide_eq_true (by omega)
                have c4 : decide ((65 : Int) ≤ (n : Int)) = true := decide_eq_true (by omega)
                have c5 : decide ((n : Int) ≤ (90 : Int)) = true := decide_eq_true (by omega)
                have c6 : ((n : Int) == 45) = false := by simp; omega
                have HNX : Hid (∀ j (hj : j < x.size), j < k + 1 → wordC x[j] = true) := HYES.out (by unfold wordQ; simp; omega)
                clear hc HYES HNOT
                go_wp2
                go_roundw
                case rel => exact ⟨k + 1, by omega, by go_num, HNX.out, by first | rfl | trivial⟩
                case measure => simp [intOf]; omega
              · as_aux_lemma =>
                have c0 : decide ((48 : Int) ≤ (n : Int)) = true := decide_eq_true (by omega)
                have c1 : decide ((n : Int) ≤ (57 : Int)) = false := decide_eq_false (by omega)
                have c2 : decide ((97 : Int) ≤ (n : Int)) = false := decide_eq_false (by omega)
                have c3 : decide ((n : Int) ≤ (122 : Int)) = true := decide_eq_true (by omega)
                have c4 : decide ((65 : Int) ≤ (n : Int)) = true := decide_eq_true (by omega)
                have c5 : decide ((n : Int) ≤ (90 : Int)) = false := decide_eq_false (by omega)
                have c6 : ((n : Int) == 45) = false := by simp; omega
                have HW := hidM (HNOT.out (by unfold wordQ; simp; omega))
                have HR := hidM (HBAD.out HW.out)
                clear hc HYES HNOT HBAD HW
                go_wp2
                go_ret
                exact ⟨by rw [HR.out]; rfl, HBE.out⟩
              · as_aux_lemma =>
                have c0 : decide ((48 : Int) ≤ (n : Int)) = true := decide_eq_true (by omega)
                have c1 : decide ((n : Int) ≤ (57 : Int)) = false := decide_eq_false (by omega)
                have c2 : decide ((97 : Int) ≤ (n : Int)) = true := decide_eq_true (by omega)
                have c3 : decide ((n : Int) ≤ (122 : Int)) = true := decide_eq_true (by omega)
                have c4 : decide ((65 : Int) ≤ (n : Int)) = true := decide_eq_true (by omega)
                have c5 : decide ((n : Int) ≤ (90 : Int)) = false := decide_eq_false (by omega)
                have c6 : ((n : Int) == 45) = false := by simp; omega
                have HNX : Hid (∀ j (hj : j < x.size), j < k + 1 → wordC x[j] = true) := HYES.out (by unfold wordQ; simp; omega)
                clear hc HYES HNOT
                go_wp2
                go_roundw
                case rel => exact ⟨k + 1, by omega, by go_num, HNX.out, by first | rfl | trivial⟩
                case measure => simp [intOf]; omega
              · as_aux_lemma =>
                have c0 : decide ((48 : Int) ≤ (n : Int)) = true := decide_eq_true (by omega)
                have c1 : decide ((n : Int) ≤ (57 : Int)) = false := decide_eq_false (by omega)
                have c2 : decide ((97 : Int) ≤ (n : Int)) = true := decide_eq_true (by omega)
                have c3 : decide ((n : Int) ≤ (122 : Int)) = false := decide_eq_false (by omega)
                have c4 : decide ((65 : Int) ≤ (n : Int)) = true := decide_eq_true (by omega)
                have c5 : decide ((n : Int) ≤ (90 : Int)) = false := decide_eq_false (by omega)
                have c6 : ((n : Int) == 45) = false := by simp; omega
                have HW := hidM (HNOT.out (by unfold wordQ; simp; omega))
                have HR := hidM (HBAD.out HW.out)
                clear hc HYES HNOT HBAD HW
                go_wp2
                go_ret
                exact ⟨by rw [HR.out]; rfl, HBE.out⟩
            · have gk2 : ¬ (k : Int) < (x.size : Int) := by omega
              have HNX := hidM (HGX.out (HWL.out (fun j hj => HNO.out j hj (by omega))))
              clear HNO HWL HWN HGX HBAD
              go_wp2
              go_roundw
              case rel => exact ⟨kk + 1, by omega, by go_num, HNX.out, by first | rfl | trivial⟩
              case measure => simp [intOf]; omega
        | true =>
          cases dg with
          | false =>
            have HGX := hidM (HGO.out rfl)
            clear HGO HB3 HNM HNE
            go_wp2_with fail
            refine HDG.out.mono ?_
            rintro _ w9 ⟨rfl, h9⟩
            rw [h9]
            clear h9
            go_wp2
            go_loopw [7, 8] (fun iv _ wr => ∃ k : Nat, k ≤ x.size ∧ iv = .int .i64 (k : Int) ∧ (∀ j (hj : j < x.size), j < k → wordC x[j] = true) ∧ w1 = wr) (fun i _ _ => x.size - (intOf i).toNat)
            case atStart => exact ⟨0, Nat.zero_le _, rfl, fun j _ hj => by omega, rfl⟩
            case round =>
              obtain ⟨k, hk, rfl, hno, hwr⟩ := hrel
              subst hwr
              have HNO := hidM hno
              clear hno
              by_cases hlt2 : k < x.size
              · have gk2 : (k : Int) < (x.size : Int) := by omega
                have HYES : Hid (wordQ x[k].toNat = true → ∀ j (hj : j < x.size), j < k + 1 → wordC x[j] = true) := fun h j hj hjk => by
                  rcases Nat.lt_or_ge j k with h2 | h2
                  · exact HNO.out j hj h2
                  · obtain rfl : j = k := by omega
                    rw [wordQ_eq]; exact h
                have HNOT : Hid (wordQ x[k].toNat = false → wordL x.data.toList = false) := fun h => HWN.out k hlt2 (by rw [wordQ_eq]; exact h)
                have hn : x[k].toNat < 256 := UInt8.toNat_lt _
                clear HNO HWL HWN HGX
                generalize hnn : x[k].toNat = n at *
                have hnI : (x[k].toNat : Int) = (n : Int) := by omega
                clear hnn
                rcases byte_cls n hn with hc | hc | hc | hc | hc | hc | hc | hc | hc
                · as_aux_lemma =>
                  have c0 : decide ((48 : Int) ≤ (n : Int)) = false := decide_eq_false (by omega)
                  have c1 : decide ((n : Int) ≤ (57 : Int)) = true := decide_eq_true (by omega)
                  have c2 : decide ((97 : Int) ≤ (n : Int)) = false := decide_eq_false (by omega)
                  have c3 : decide ((n : Int) ≤ (122 : Int)) = true := decide_eq_true (by omega)
                  have c4 : decide ((65 : Int) ≤ (n : Int)) = false := decide_eq_false (by omega)
                  have c5 : decide ((n : Int) ≤ (90 : Int)) = true := decide_eq_true (by omega)
                  have c6 : ((n : Int) == 45) = false := by simp; omega
                  have HW := hidM (HNOT.out (by unfold wordQ; simp; omega))
                  have HR := hidM (HBAD.out HW.out)
                  clear hc HYES HNOT HBAD HW
                  go_wp2
                  go_ret
                  exact ⟨by rw [HR.out]; rfl, HBE.out⟩
                · as_aux_lemma =>
                  have c0 : decide ((48 : Int) ≤ (n : Int)) = false := decide_eq_false (by omega)
                  have c1 : decide ((n : Int) ≤ (57 : Int)) = true := decide_eq_true (by omega)
                  have c2 : decide ((97 : Int) ≤ (n : Int)) = false := decide_eq_false (by omega)
                  have c3 : decide ((n : Int) ≤ (122 : Int)) = true := decide_eq_true (by omega)
                  have c4 : decide ((65 : Int) ≤ (n : Int)) = false := decide_eq_false (by omega)
                  have c5 : decide ((n : Int) ≤ (90 : Int)) = true := decide_eq_true (by omega)
                  have c6 : ((n : Int) == 45) = true := by simp; omega
                  have HNX : Hid (∀ j (hj : j < x.size), j < k + 1 → wordC x[j] = true) := HYES.out (by unfold wordQ; simp; omega)
                  clear hc HYES HNOT
                  go_wp2
                  go_roundw
                  case rel => exact ⟨k + 1, by omega, by go_num, HNX.out, by first | rfl | trivial⟩
                  case measure => simp [intOf]; omega
                · as_aux_lemma =>
                  have c0 : decide ((48 : Int) ≤ (n : Int)) = false := decide_eq_false (by omega)
                  have c1 : decide ((n : Int) ≤ (57 : Int)) = true := decide_eq_true (by omega)
                  have c2 : decide ((97 : Int) ≤ (n : Int)) = false := decide_eq_false (by omega)
                  have c3 : decide ((n : Int) ≤ (122 : Int)) = true := decide_eq_true (by omega)
                  have c4 : decide ((65 : Int) ≤ (n : Int)) = false := decide_eq_false (by omega)
                  have c5 : decide ((n : Int) ≤ (90 : Int)) = true := decide_eq_true (by omega)
                  have c6 : ((n : Int) == 45) = false := by simp; omega
                  have HW := hidM (HNOT.out (by unfold wordQ; simp; omega))
                  have HR := hidM (HBAD.out HW.out)
                  clear hc HYES HNOT HBAD HW
                  go_wp2
                  go_ret
                  exact ⟨by rw [HR.out]; rfl, HBE.out⟩
                · as_aux_lemma =>
                  have c0 : decide ((48 : Int) ≤ (n : Int)) = true := decide_eq_true (by omega)
                  have c1 : decide ((n : Int) ≤ (57 : Int)) = true := decide_eq_true (by omega)
                  have c2 : decide ((97 : Int) ≤ (n : Int)) = false := decide_eq_false (by omega)
                  have c3 : decide ((n : Int) ≤ (122 : Int)) = true := decide_eq_true (by omega)
                  have c4 : decide ((65 : Int) ≤ (n : Int)) = false := decide_eq_false (by omega)
                  have c5 : decide ((n : Int) ≤ (90 : Int)) = true := decide_eq_true (by omega)
                  have c6 : ((n : Int) == 45) = false := by simp; omega
                  have HNX : Hid (∀ j (hj : j < x.size), j < k + 1 → wordC x[j] = true) := HYES.out (by unfold wordQ; simp; omega)
                  clear hc HYES HNOT
                  go_wp2
                  go_roundw
                  case rel => exact ⟨k + 1, by omega, by go_num, HNX.out, by first | rfl | trivial⟩
                  case measure => simp [intOf]; omega
                · as_aux_lemma =>
                  have c0 : decide ((48 : Int) ≤ (n : Int)) = true := decide_eq_true (by omega)
                  have c1 : decide ((n : Int) ≤ (57 : Int)) = false := decide_eq_false (by omega)
                  have c2 : decide ((97 : Int) ≤ (n : Int)) = false := decide_eq_false (by omega)
                  have c3 : decide ((n : Int) ≤ (122 : Int)) = true := decide_eq_true (by omega)
                  have c4 : decide ((65 : Int) ≤ (n : Int)) = false := decide_eq_false (by omega)
                  have c5 : decide ((n : Int) ≤ (90 : Int)) = true := decide_eq_true (by omega)
                  have c6 : ((n : Int) == 45) = false := by simp; omega
                  have HW := hidM (HNOT.out (by unfold wordQ; simp; omega))
                  have HR := hidM (HBAD.out HW.out)
                  clear hc HYES HNOT HBAD HW
                  go_wp2
                  go_ret
                  exact ⟨by rw [HR.out]; rfl, HBE.out⟩
                · as_aux_lemma =>
                  have c0 : decide ((48 : Int) ≤ (n : Int)) = true := decide_eq_true (by omega)
                  have c1 : decide ((n : Int) ≤ (57 : Int)) = false := decide_eq_false (by omega)
                  have c2 : decide ((97 : Int) ≤ (n : Int)) = false := decide_eq_false (by omega)
                  have c3 : decide ((n : Int) ≤ (122 : Int)) = true := decide_eq_true (by omega)
                  have c4 : decide ((65 : Int) ≤ (n : Int)) = true := decide_eq_true (by omega)
                  have c5 : decide ((n : Int) ≤ (90 : Int)) = true := decide_eq_true (by omega)
                  have c6 : ((n : Int) == 45) = false := by simp; omega
                  have HNX : Hid (∀ j (hj : j < x.size), j < k + 1 → wordC x[j] = true) := HYES.out (by unfold wordQ; simp; omega)
                  clear hc HYES HNOT
                  go_wp2
                  go_roundw
                  case rel => exact ⟨k + 1, by omega, by go_num, HNX.out, by first | rfl | trivial⟩
                  case measure => simp [intOf]; omega
                · as_aux_lemma =>
                  have c0 : decide ((48 : Int) ≤ (n : Int)) = true := decide_eq_true (by omega)
                  have c1 : decide ((n : Int) ≤ (57 : Int)) = false := decide_eq_false (by omega)
                  have c2 : decide ((97 : Int) ≤ (n : Int)) = false := decide_eq_false (by omega)
                  have c3 : decide ((n : Int) ≤ (122 : Int)) = true := decide_eq_true (by omega)
                  have c4 : decide ((65 : Int) ≤ (n : Int)) = true := decide_eq_true (by omega)
                  have c5 : decide ((n : Int) ≤ (90 : Int)) = false := decide_eq_false (by omega)
                  have c6 : ((n : Int) == 45) = false := by simp; omega
                  have HW := hidM (HNOT.out (by unfold wordQ; simp; omega))
                  have HR := hidM (HBAD.out HW.out)
                  clear hc HYES HNOT HBAD HW
                  go_wp2
                  go_ret
                  exact ⟨by rw [HR.out]; rfl, HBE.out⟩
                · as_aux_lemma =>
                  have c0 : decide ((48 : Int) ≤ (n : Int)) = true := decide_eq_true (by omega)
                  have c1 : decide ((n : Int) ≤ (57 : Int)) = false := decide_eq_false (by omega)
                  have c2 : decide ((97 : Int) ≤ (n : Int)) = true := decide_eq_true (by omega)
                  have c3 : decide ((n : Int) ≤ (122 : Int)) = true := decide_eq_true (by omega)
                  have c4 : decide ((65 : Int) ≤ (n : Int)) = true := decide_eq_true (by omega)
                  have c5 : decide ((n : Int) ≤ (90 : Int)) = false := decide_eq_false (by omega)
                  have c6 : ((n : Int) == 45) = false := by simp; omega
                  have HNX : Hid (∀ j (hj : j < x.size), j < k + 1 → wordC x[j] = true) := HYES.out (by unfold wordQ; simp; omega)
                  clear hc HYES HNOT
                  go_wp2
                  go_roundw
                  case rel => exact ⟨k + 1, by omega, by go_num, HNX.out, by first | rfl | trivial⟩
                  case measure => simp [intOf]; omega
                · as_aux_lemma =>
                  have c0 : decide ((48 : Int) ≤ (n : Int)) = true := decide_eq_true (by omega)
                  have c1 : decide ((n : Int) ≤ (57 : Int)) = false := decide_eq_false (by omega)
                  have c2 : decide ((97 : Int) ≤ (n : Int)) = true := decide_eq_true (by omega)
                  have c3 : decide ((n : Int) ≤ (122 : Int)) = false := decide_eq_false (by omega)
                  have c4 : decide ((65 : Int) ≤ (n : Int)) = true := decide_eq_true (by omega)
                  have c5 : decide ((n : Int) ≤ (90 : Int)) = false := decide_eq_false (by omega)
                  have c6 : ((n : Int) == 45) = false := by simp; omega
                  have HW := hidM (HNOT.out (by unfold wordQ; simp; omega))
                  have HR := hidM (HBAD.out HW.out)
                  clear hc HYES HNOT HBAD HW
                  go_wp2
                  go_ret
                  exact ⟨by rw [HR.out]; rfl, HBE.out⟩
              · have gk2 : ¬ (k : Int) < (x.size : Int) := by omega
                have HNX := hidM (HGX.out (HWL.out (fun j hj => HNO.out j hj (by omega))))
                clear HNO HWL HWN HGX HBAD
                go_wp2
                go_roundw
                case rel => exact ⟨kk + 1, by omega, by go_num, HNX.out, by first | rfl | trivial⟩
                case measure => simp [intOf]; omega
          | true =>
            cases nm with
            | false =>
              have HR := hidM (HB3.out rfl)
              clear HGO HB3 HWL HWN HBAD HNE
              go_wp2_with fail
              refine HDG.out.mono ?_
              rintro _ w9 ⟨rfl, h9⟩
              rw [h9]
              clear h9
              go_wp2_with fail
              refine HNM.out.mono ?_
              rintro _ w9 ⟨rfl, h9⟩
              rw [h9]
              clear h9
              go_wp2
              go_ret
              exact ⟨by rw [HR.out]; rfl, HBE.out⟩
            | true =>
              have HGX := hidM (HGO.out rfl)
              clear HGO HB3 HNE
              go_wp2_with fail
              refine HDG.out.mono ?_
              rintro _ w9 ⟨rfl, h9⟩
              rw [h9]
              clear h9
              go_wp2_with fail
              refine HNM.out.mono ?_
              rintro _ w9 ⟨rfl, h9⟩
              rw [h9]
              clear h9
              go_wp2
              go_loopw [7, 8] (fun iv _ wr => ∃ k : Nat, k ≤ x.size ∧ iv = .int .i64 (k : Int) ∧ (∀ j (hj : j < x.size), j < k → wordC x[j] = true) ∧ w1 = wr) (fun i _ _ => x.size - (intOf i).toNat)
              case atStart => exact ⟨0, Nat.zero_le _, rfl, fun j _ hj => by omega, rfl⟩
              case round =>
                obtain ⟨k, hk, rfl, hno, hwr⟩ := hrel
                subst hwr
                have HNO := hidM hno
                clear hno
                by_cases hlt2 : k < x.size
                · have gk2 : (k : Int) < (x.size : Int) := by omega
                  have HYES : Hid (wordQ x[k].toNat = true → ∀ j (hj : j < x.size), j < k + 1 → wordC x[j] = true) := fun h j hj hjk => by
                    rcases Nat.lt_or_ge j k with h2 | h2
                    · exact HNO.out j hj h2
                    · obtain rfl : j = k := by omega
                      rw [wordQ_eq]; exact h
                  have HNOT : Hid (wordQ x[k].toNat = false → wordL x.data.toList = false) := fun h => HWN.out k hlt2 (by rw [wordQ_eq]; exact h)
                  have hn : x[k].toNat < 256 := UInt8.toNat_lt _
                  clear HNO HWL HWN HGX
                  generalize hnn : x[k].toNat = n at *
                  have hnI : (x[k].toNat : Int) = (n : Int) := by omega
                  clear hnn
                  rcases byte_cls n hn with hc | hc | hc | hc | hc | hc | hc | hc | hc
                  · as_aux_lemma =>
                    have c0 : decide ((48 : Int) ≤ (n : Int)) = false := decide_eq_false (by omega)
                    have c1 : decide ((n : Int) ≤ (57 : Int)) = true := decide_eq_true (by omega)
                    have c2 : decide ((97 : Int) ≤ (n : Int)) = false := decide_eq_false (by omega)
                    have c3 : decide ((n : Int) ≤ (122 : Int)) = true := decide_eq_true (by omega)
                    have c4 : decide ((65 : Int) ≤ (n : Int)) = false := decide_eq_false (by omega)
                    have c5 : decide ((n : Int) ≤ (90 : Int)) = true := decide_eq_true (by omega)
                    have c6 : ((n : Int) == 45) = false := by simp; omega
                    have HW := hidM (HNOT.out (by unfold wordQ; simp; omega))
                    have HR := hidM (HBAD.out HW.out)
                    clear hc HYES HNOT HBAD HW
                    go_wp2
                    go_ret
                    exact ⟨by rw [HR.out]; rfl, HBE.out⟩
                  · as_aux_lemma =>
                    have c0 : decide ((48 : Int) ≤ (n : Int)) = false := decide_eq_false (by omega)
                    have c1 : decide ((n : Int) ≤ (57 : Int)) = true := decide_eq_true (by omega)
                    have c2 : decide ((97 : Int) ≤ (n : Int)) = false := decide_eq_false (by omega)
                    have c3 : decide ((n : Int) ≤ (122 : Int)) = true := decide_eq_true (by omega)
                    have c4 : decide ((65 : Int) ≤ (n : Int)) = false := decide_eq_false (by omega)
                    have c5 : decide ((n : Int) ≤ (90 : Int)) = true := decide_eq_true (by omega)
                    have c6 : ((n : Int) == 45) = true := by simp; omega
                    have HNX : Hid (∀ j (hj : j < x.size), j < k + 1 → wordC x[j] = true) := HYES.out (by unfold wordQ; simp; omega)
                    clear hc HYES HNOT
                    go_wp2
                    go_roundw
                    case rel => exact ⟨k + 1, by omega, by go_num, HNX.out, by first | rfl | trivial⟩
                    case measure => simp [intOf]; omega
                  · as_aux_lemma =>
                    have c0 : decide ((48 : Int) ≤ (n : Int)) = false := decide_eq_false (by omega)
                    have c1 : decide ((n : Int) ≤ (57 : Int)) = true := decide_eq_true (by omega)
                    have c2 : decide ((97 : Int) ≤ (n : Int)) = false := decide_eq_false (by omega)
                    have c3 : decide ((n : Int) ≤ (122 : Int)) = true := decide_eq_true (by omega)
                    have c4 : decide ((65 : Int) ≤ (n : Int)) = false := decide_eq_false (by omega)
                    have c5 : decide ((n : Int) ≤ (90 : Int)) = true := decide_eq_true (by omega)
                    have c6 : ((n : Int) == 45) = false := by simp; omega
                    have HW := hidM (HNOT.out (by unfold wordQ; simp; omega))
                    have HR := hidM (HBAD.out HW.out)
                    clear hc HYES HNOT HBAD HW
                    go_wp2
                    go_ret
                    exact ⟨by rw [HR.out]; rfl, HBE.out⟩
                  · as_aux_lemma =>
                    have c0 : decide ((48 : Int) ≤ (n : Int)) = true := decide_eq_true (by omega)
                    have c1 : decide ((n : Int) ≤ (57 : Int)) = true := decide_eq_true (by omega)
                    have c2 : decide ((97 : Int) ≤ (n : Int)) = false := decide_eq_false (by omega)
                    have c3 : decide ((n : Int) ≤ (122 : Int)) = true := decide_eq_true (by omega)
                    have c4 : decide ((65 : Int) ≤ (n : Int)) = false := decide_eq_false (by omega)
                    have c5 : decide ((n : Int) ≤ (90 : Int)) = true := decide_eq_true (by omega)
                    have c6 : ((n : Int) == 45) = false := by simp; omega
                    have HNX : Hid (∀ j (hj : j < x.size), j < k + 1 → wordC x[j] = true) := HYES.out (by unfold wordQ; simp; omega)
                    clear hc HYES HNOT
                    go_wp2
                    go_roundw
                    case rel => exact ⟨k + 1, by omega, by go_num, HNX.out, by first | rfl | trivial⟩
                    case measure => simp [intOf]; omega
                  · as_aux_lemma =>
                    have c0 : decide ((48 : Int) ≤ (n : Int)) = true := decide_eq_true (by omega)
                    have c1 : decide ((n : Int) ≤ (57 : Int)) = false := decide_eq_false (by omega)
                    have c2 : decide ((97 : Int) ≤ (n : Int)) = false := decide_eq_false (by omega)
                    have c3 : decide ((n : Int) ≤ (122 : Int)) = true := decide_eq_true (by omega)
                    have c4 : decide ((65 : Int) ≤ (n : Int)) = false := decide_eq_false (by omega)
                    have c5 : decide ((n : Int) ≤ (90 : Int)) = true := decide_eq_true (by omega)
                    have c6 : ((n : Int) == 45) = false := by simp; omega
                    have HW := hidM (HNOT.out (by unfold wordQ; simp; omega))
                    have HR := hidM (HBAD.out HW.out)
                    clear hc HYES HNOT HBAD HW
                    go_wp2
                    go_ret
                    exact ⟨by rw [HR.out]; rfl, HBE.out⟩
                  · as_aux_lemma =>
                    have c0 : decide ((48 : Int) ≤ (n : Int)) = true := decide_eq_true (by omega)
                    have c1 : decide ((n : Int) ≤ (57 : Int)) = false := decide_eq_false (by omega)
                    have c2 : decide ((97 : Int) ≤ (n : Int)) = false := decide_eq_false (by omega)
                    have c3 : decide ((n : Int) ≤ (122 : Int)) = true := decide_eq_true (by omega)
                    have c4 : decide ((65 : Int) ≤ (n : Int)) = true := decide_eq_true (by omega)
                    have c5 : decide ((n : Int) ≤ (90 : Int)) = true := decide_eq_true (by omega)
                    have c6 : ((n : Int) == 45) = false := by simp; omega
                    have HNX : Hid (∀ j (hj : j < x.size), j < k + 1 → wordC x[j] = true) := HYES.out (by unfold wordQ; simp; omega)
                    clear hc HYES HNOT
                    go_wp2
                    go_roundw
                    case rel => exact ⟨k + 1, by omega, by go_num, HNX.out, by first | rfl | trivial⟩
                    case measure => simp [intOf]; omega
                  · as_aux_lemma =>
                    have c0 : decide ((48 : Int) ≤ (n : Int)) = true := decide_eq_true (by omega)
                    have c1 : decide ((n : Int) ≤ (57 : Int)) = false := decide_eq_false (by omega)
                    have c2 : decide ((97 : Int) ≤ (n : Int)) = false := decide_eq_false (by omega)
                    have c3 : decide ((n : Int) ≤ (122 : Int)) = true := decide_eq_true (by omega)
                    have c4 : decide ((65 : Int) ≤ (n : Int)) = true := decide_eq_true (by omega)
                    have c5 : decide ((n : Int) ≤ (90 : Int)) = false := decide_eq_false (by omega)
                    have c6 : ((n : Int) == 45) = false := by simp; omega
                    have HW := hidM (HNOT.out (by unfold wordQ; simp; omega))
                    have HR := hidM (HBAD.out HW.out)
                    clear hc HYES HNOT HBAD HW
                    go_wp2
                    go_ret
                    exact ⟨by rw [HR.out]; rfl, HBE.out⟩
                  · as_aux_lemma =>
                    have c0 : decide ((48 : Int) ≤ (n : Int)) = true := decide_eq_true (by omega)
                    have c1 : decide ((n : Int) ≤ (57 : Int)) = false := decide_eq_false (by omega)
                    have c2 : decide ((97 : Int) ≤ (n : Int)) = true := decide_eq_true (by omega)
                    have c3 : decide ((n : Int) ≤ (122 : Int)) = true := decide_eq_true (by omega)
                    have c4 : decide ((65 : Int) ≤ (n : Int)) = true := decide_eq_true (by omega)
                    have c5 : decide ((n : Int) ≤ (90 : Int)) = false := decide_eq_false (by omega)
                    have c6 : ((n : Int) == 45) = false := by simp; omega
                    have HNX : Hid (∀ j (hj : j < x.size), j < k + 1 → wordC x[j] = true) := HYES.out (by unfold wordQ; simp; omega)
                    clear hc HYES HNOT
                    go_wp2
                    go_roundw
                    case rel => exact ⟨k + 1, by omega, by go_num, HNX.out, by first | rfl | trivial⟩
                    case measure => simp [intOf]; omega
                  · as_aux_lemma =>
                    have c0 : decide ((48 : Int) ≤ (n : Int)) = true := decide_eq_true (by omega)
                    have c1 : decide ((n : Int) ≤ (57 : Int)) = false := decide_eq_false (by omega)
                    have c2 : decide ((97 : Int) ≤ (n : Int)) = true := decide_eq_true (by omega)
                    have c3 : decide ((n : Int) ≤ (122 : Int)) = false := decide_eq_false (by omega)
                    have c4 : decide ((65 : Int) ≤ (n : Int)) = true := decide_eq_true (by omega)
                    have c5 : decide ((n : Int) ≤ (90 : Int)) = false := decide_eq_false (by omega)
                    have c6 : ((n : Int) == 45) = false := by simp; omega
                    have HW := hidM (HNOT.out (by unfold wordQ; simp; omega))
                    have HR := hidM (HBAD.out HW.out)
                    clear hc HYES HNOT HBAD HW
                    go_wp2
                    go_ret
                    exact ⟨by rw [HR.out]; rfl, HBE.out⟩
                · have gk2 : ¬ (k : Int) < (x.size : Int) := by omega
                  have HNX := hidM (HGX.out (HWL.out (fun j hj => HNO.out j hj (by omega))))
                  clear HNO HWL HWN HGX HBAD
                  go_wp2
                  go_roundw
                  case rel => exact ⟨kk + 1, by omega, by go_num, HNX.out, by first | rfl | trivial⟩
                  case measure => simp [intOf]; omega
    · have gk : ¬ (kk : Int) < (ps.length : Int) := by omega
      have HR : Hid ((ps.all fun x => wdL pre x.data.toList) = true) := by
        unfold Hid
        rw [List.all_eq_true]
        intro x hx
        obtain ⟨j, hj, rfl⟩ := List.getElem_of_mem hx
        exact HNO.out j hj (by omega)
      go_wp2
      go_ret
      exact ⟨by rw [HR.out]; rfl, HBE.out⟩
end Go.Proofs.YtmhjdahmmdfbcaaGreatDoor
