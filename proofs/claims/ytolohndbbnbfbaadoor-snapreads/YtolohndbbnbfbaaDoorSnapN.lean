/-
  What stands next in a folder: first parts, each once.
-/
import Derived.Test.YtolohndbbnbfbaaDoorSnapL
import Derived.Lib.IndexLaws
namespace Go.Proofs.YtolohndbbnbfbaaDoor
open Go.RowKit

/-- up to the first slash, with it -/
def firstL : List UInt8 → List UInt8
  | [] => []
  | b :: l => if b = 47 then [b] else b :: firstL l
def firstB (s : ByteArray) : ByteArray := ⟨(firstL s.data.toList).toArray⟩
theorem firstL_none : ∀ l : List UInt8, Lib.indexByte l 47 = -1 → firstL l = l
  | [], _ => rfl
  | b :: l, h => by
    unfold Lib.indexByte at h
    unfold firstL
    by_cases hb : b = 47
    · rw [if_pos (by simp [hb])] at h; simp at h
    · rw [if_neg (by simp [hb])] at h
      rw [if_neg hb]
      by_cases hx : (Lib.indexByte l 47 == -1) = true
      · rw [firstL_none l (by simpa using hx)]
      · rw [if_neg hx] at h
        have := Lib.indexByte_ge l 47
        omega
theorem firstL_some : ∀ (l : List UInt8) (o : Nat), Lib.indexByte l 47 = o → firstL l = l.take (o + 1)
  | [], o, h => by simp [Lib.indexByte] at h
  | b :: l, o, h => by
    unfold Lib.indexByte at h
    unfold firstL
    by_cases hb : b = 47
    · rw [if_pos (by simp [hb])] at h
      have : o = 0 := by omega
      subst this
      rw [if_pos hb]; rfl
    · rw [if_neg (by simp [hb])] at h
      rw [if_neg hb]
      by_cases hx : (Lib.indexByte l 47 == -1) = true
      · rw [if_pos hx] at h; omega
      · rw [if_neg hx] at h
        obtain ⟨p, rfl⟩ : ∃ p, o = p + 1 := ⟨o - 1, by have := Lib.indexByte_ge l 47; simp at hx; omega⟩
        rw [firstL_some l p (by omega)]; rfl
theorem index_lt (l : List UInt8) (c : UInt8) : Lib.indexByte l c < (l.length : Int) + (if l = [] then 1 else 0) ∧ Lib.indexByte l c ≤ l.length := by
  induction l with
  | nil => simp [Lib.indexByte]
  | cons b l ih =>
    have := ih.2
    unfold Lib.indexByte
    simp only [List.length_cons]
    split
    · constructor
      · simp
      · omega
    · split
      · constructor
        · simp; omega
        · omega
      · have h3 := ih.1
        constructor
        · rename_i h4
          by_cases he : l = []
          · subst he; simp [Lib.indexByte] at h4
          · rw [if_neg he] at h3; simp; omega
        · by_cases he : l = []
          · subst he; simp [Lib.indexByte]
          · rw [if_neg he] at h3; omega
theorem extract_take (s : ByteArray) (n : Nat) : s.extract 0 n = ⟨(s.data.toList.take n).toArray⟩ := by
  refine ba_eq ?_
  rw [Lib.extract_data]; simp
set_option maxHeartbeats 1600000 in
theorem firstPart_any (s : ByteArray) (w : World) (hs : s.size ≤ 4611686018427387904) :
    Calls Tryd.prog 73 #[.string s] w fun e w' => e = .returned (.string (firstB s)) ∧ w' = w := by
  have HI := hidM (fun W => Tryd.strings_Index_one s 47 W)
  have hge := Lib.indexByte_ge s.data.toList 47
  have hle := index_lt s.data.toList 47
  by_cases hn : Lib.indexByte s.data.toList 47 = -1
  · have HF : Hid (firstB s = s) := by
      unfold Hid firstB
      rw [firstL_none _ hn]
    rw [hn] at HI
    clear hge hle hn
    go_enter Tryd.func73, Tryd.ntmps73
    go_wp2_with fail
    refine (HI.out _).mono ?_
    rintro _ w1 ⟨rfl, rfl⟩
    go_wp2_with fail
    go_ret
    exact ⟨by rw [HF.out]; rfl, rfl⟩
  · obtain ⟨o, ho⟩ : ∃ o : Nat, Lib.indexByte s.data.toList 47 = o := ⟨(Lib.indexByte s.data.toList 47).toNat, by omega⟩
    have HF : Hid (firstB s = s.extract 0 (o + 1)) := by
      unfold Hid firstB
      rw [firstL_some _ o ho, extract_take]
    have hol : o + 1 ≤ s.size := by
      rw [Lib.size_eq]
      have h1 := hle.1
      by_cases he : s.data.toList = []
      · rw [he] at ho; simp [Lib.indexByte] at ho
      · rw [if_neg he] at h1; omega
    rw [ho] at HI
    clear hge hle hn ho
    have g0 : decide ((o : Int) < 0) = false := by simp
    have g1 : (o : Int) + 1 = ((o + 1 : Nat) : Int) := by omega
    have g2 : ((o + 1 : Nat) : Int) ≤ (s.size : Int) := by omega
    generalize o + 1 = m at *
    go_enter Tryd.func73, Tryd.ntmps73
    go_wp2_with fail
    refine (HI.out _).mono ?_
    rintro _ w1 ⟨rfl, rfl⟩
    go_wp2_with fail
    go_ret
    exact ⟨by rw [HF.out]; rfl, rfl⟩
/-- an item behind others: not, if it is the last one -/
def stepI (acc : List ByteArray) (x : ByteArray) : List ByteArray := if acc.getLast? = some x then acc else acc ++ [x]
def itemOf (n : Nat) (f : FileB) : ByteArray := firstB (f.1.extract n f.1.size)
def itemsF (n : Nat) (us : List FileB) : List ByteArray := us.foldl (fun acc f => stepI acc (itemOf n f)) []
theorem itemsF_take (n : Nat) (us : List FileB) (k : Nat) (h : k < us.length) : itemsF n (us.take (k + 1)) = stepI (itemsF n (us.take k)) (itemOf n us[k]) := by
  unfold itemsF
  rw [List.take_succ_eq_append_getElem h, List.foldl_append]; rfl
theorem itemsF_len (n : Nat) (us : List FileB) (k : Nat) (hk : k ≤ us.length) : (itemsF n (us.take k)).length ≤ k := by
  induction k with
  | zero => simp [itemsF]
  | succ k ih =>
    rw [itemsF_take n us k (by omega)]
    have := ih (by omega)
    unfold stepI
    split
    · omega
    · simp; omega
def StrsAt (w : World) (g : Nat) (l : List ByteArray) : Prop := ∀ j (h : j < l.length), w.cell? ⟨g, j, none⟩ = some (.string l[j])
theorem StrsAt.below {w w' : World} {g B : Nat} {l : List ByteArray} (h : StrsAt w g l) (hb : Below B w w') (hB : g < B) : StrsAt w' g l := fun j hj =>
  (hb.cell (p := ⟨g, j, none⟩) hB).trans (h j hj)
theorem OwnS.shape {w : World} {B : Nat} {v : Value} {l : List ByteArray} (h : OwnS w B v l) : ∃ a c, v = .slice a l.length c ∧ (l ≠ [] → ∃ g, a = some ⟨g, 0, none⟩ ∧ B ≤ g ∧ g < w.heap.size ∧ StrsAt w g l) := by
  have h' := h
  rcases h.2 with ⟨hnil, hn⟩ | ⟨g, cap, cur, rfl, hbase, hbk, h1, h2, h3, h4⟩
  · refine ⟨none, 0, by rw [hnil, hn], fun hne => ?_⟩
    exact absurd (List.eq_nil_of_length_eq_zero hn) hne
  · refine ⟨_, cap, rfl, fun _ => ⟨g, rfl, hbase, (Array.getElem?_eq_some_iff.1 hbk).1, fun j hj => ?_⟩⟩
    have := World.ownsRow.cells h' (g := g) rfl j (.string l[j]) (by unfold strsV; simp [hj])
    rw [Addr.add_lit, Nat.zero_add] at this
    exact this
set_option maxHeartbeats 1600000 in
theorem items_any (b o c : Nat) (us : List FileB) (p : ByteArray) (w : World) (hb : b < w.heap.size) (hf : FilesAt w b o us) (hl : us.length ≤ 1000000) (hp : ∀ f ∈ us, p.size ≤ f.1.size ∧ f.1.size ≤ 4611686018427387904) :
    Calls Tryd.prog 57 #[.slice (some ⟨b, o, none⟩) us.length c, .string p] w fun e w' => SlRet w' w.heap.size (itemsF p.size us) e ∧ Below w.heap.size w w' := by
  obtain ⟨i0, hi, hz0, hz1, hz2⟩ := info_parts info9
  have HF := hidM hf
  have HP := hidM hp
  clear hf hp
  go_enter Tryd.func57, Tryd.ntmps57
  go_wp2_with fail
  go_loopw [5, 7, 8, 11] (fun v _ _ i wr => ∃ (k : Nat), k ≤ us.length ∧ i = .int .i64 k ∧ OwnS wr w.heap.size v (itemsF p.size (us.take k)) ∧ Below w.heap.size w wr) (fun _ _ _ i _ => us.length - (intOf i).toNat)
  case atStart => exact ⟨0, Nat.zero_le _, rfl, World.ownsRow_nil _ _ _ _, Below.refl _ _⟩
  case round =>
    obtain ⟨k, hk, rfl, hown, hbr⟩ := hrel
    have HO := hidM hown
    have HB := hidM hbr
    have hsz := hbr.size
    clear hown hbr
    by_cases hlt : k < us.length
    · have kk : (k : Int) < (us.length : Int) := by omega
      have c1 := (HF.out.below HB.out hb k hlt).1
      have c2 := (HF.out.below HB.out hb k hlt).2
      have HT := hidM (itemsF_take p.size us k hlt)
      have hil := itemsF_len p.size us k hk
      have hps := HP.out us[k] (List.getElem_mem hlt)
      have HFP := hidM (fun W => firstPart_any (us[k].1.extract p.size us[k].1.size) W (by have := hps.2; rw [ByteArray.size_extract]; omega))
      unfold itemOf at HT
      generalize us[k].1 = X at *
      generalize us[k].2 = D at *
      generalize itemsF p.size (us.take k) = L at *
      have p1 : (p.size : Int) ≤ (X.size : Int) := by omega
      generalize firstB (X.extract p.size X.size) = I at *
      have HO1 : Hid (OwnS (wr.alloc (.cells #[.string X, .string D] 32)) w.heap.size u5 L) := World.ownsRow.alloc HO.out _
      have HB2 : Hid (Below w.heap.size w (wr.alloc (.cells #[.string X, .string D] 32))) := HB.out.alloc hsz _
      go_wp2_with fail
      refine (HFP.out _).mono ?_
      rintro _ w2 ⟨rfl, rfl⟩
      have hsz2 : w.heap.size ≤ (wr.alloc (.cells #[.string X, .string D] 32)).heap.size := HB2.out.size
      generalize wr.alloc (.cells #[.string X, .string D] 32) = w2 at *
      obtain ⟨a, cp, rfl, hsh⟩ := HO1.out.shape
      have HSH := hidM hsh
      clear hsh HO HFP c1 c2
      by_cases hLn : L = []
      · subst hLn
        go_wp2_with (first
          | (at_builtin; refine wpList_append_own _ rfl _ _ 37 rfl w.heap.size 9 i0 (.string .empty) 1 16 Tryd.underlying37 hi hz0 hz1 hz2 rfl (by decide) _ _ _ rfl (World.ownsRow.alloc HO1.out _) ⟨w2.heap.size, 0, none⟩ 1 1 [.string I] ?d0 rfl ?d1 ?d2 ?d3 ?d4 ?d5 ?_))
        case d0 => rfl
        case d1 => exact cell_new_at _ _ _ _ rfl
        case d2 => intro u hu; simp at hu; subst hu; rfl
        case d3 => simp [maxLen]
        case d4 => simp
        case d5 => simp; omega
        intro v' w3 hown' hgrow _
        have HO2 := hidM (OwnS.push (l := []) hown')
        have HB3 := hidM (OwnS.below HO1.out HB2.out hsz2 hgrow)
        clear hown' hgrow
        go_wp2_with fail
        go_roundw
        case rel => exact ⟨k + 1, by omega, by go_num, by rw [HT.out]; exact HO2.out, HB3.out⟩
        case measure => (show us.length - ((k : Int) + 1).toNat < us.length - ((k : Int)).toNat); omega
      · obtain ⟨g, rfl, hg1, hg2, hst⟩ := HSH.out hLn
        have h0 : 0 < L.length := List.length_pos_iff.2 hLn
        obtain ⟨m, hm⟩ : ∃ m, m = L.length - 1 := ⟨_, rfl⟩
        have hml : m < L.length := by omega
        have cm := hst m hml
        have HLast : Hid (L.getLast? = some L[m]) := by
          unfold Hid
          rw [List.getLast?_eq_getElem?, ← hm, List.getElem?_eq_getElem hml]
        have e0 : ((L.length : Int) == 0) = false := by simp; omega
        have e1 : (L.length : Int) - 1 = (m : Int) := by omega
        have e2 : (m : Int) < (L.length : Int) := by omega
        generalize L[m] = Y at *
        clear hst HSH hm
        by_cases hY : Y = I
        · have HS : Hid (stepI L I = L) := by unfold Hid stepI; rw [HLast.out, hY, if_pos rfl]
          subst hY
          go_wp2_with fail
          go_roundw
          case rel => exact ⟨k + 1, by omega, by go_num, by rw [HT.out, HS.out]; exact HO1.out, HB2.out⟩
          case measure => (show us.length - ((k : Int) + 1).toNat < us.length - ((k : Int)).toNat); omega
        · have HS : Hid (stepI L I = L ++ [I]) := by unfold Hid stepI; rw [HLast.out, if_neg (by simpa using hY)]
          have e3 : (Y.toList == I.toList) = false := by
            rw [ByteArray.toList_eq, ByteArray.toList_eq]
            exact beq_false_of_ne fun h => hY (ba_eq h)
          clear hY
          go_wp2_with (first
            | (at_builtin; refine wpList_append_own _ rfl _ _ 37 rfl w.heap.size 9 i0 (.string .empty) 1 16 Tryd.underlying37 hi hz0 hz1 hz2 rfl (by decide) _ _ _ rfl (World.ownsRow.alloc HO1.out _) ⟨w2.heap.size, 0, none⟩ 1 1 [.string I] ?f0 rfl ?f1 ?f2 ?f3 ?f4 ?f5 ?_))
          case f0 => rfl
          case f1 => exact cell_new_at _ _ _ _ rfl
          case f2 => intro u hu; simp at hu; subst hu; rfl
          case f3 => unfold maxLen; omega
          case f4 => omega
          case f5 => simp; omega
          intro v' w3 hown' hgrow _
          have HO2 := hidM (OwnS.push hown')
          have HB3 := hidM (OwnS.below HO1.out HB2.out hsz2 hgrow)
          clear hown' hgrow
          go_wp2_with fail
          go_roundw
          case rel => exact ⟨k + 1, by omega, by go_num, by rw [HT.out, HS.out]; exact HO2.out, HB3.out⟩
          case measure => (show us.length - ((k : Int) + 1).toNat < us.length - ((k : Int)).toNat); omega
    · obtain rfl : k = us.length := by omega
      rw [List.take_of_length_le (Nat.le_refl _)] at HO
      go_wp2_with fail
      go_ret
      exact ⟨⟨_, HO.out, rfl⟩, HB.out⟩
end Go.Proofs.YtolohndbbnbfbaaDoor
