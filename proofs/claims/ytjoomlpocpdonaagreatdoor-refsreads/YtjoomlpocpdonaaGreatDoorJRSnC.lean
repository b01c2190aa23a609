/-
  Taken over from another program: SnapN.
  Taken over from another program: SnapP.
  Taken over from another program: SnapQ.
  Taken over from another program: SnapR.
  Taken over from another program: SnapS.
  Taken over from another program: PartM.
  Taken over from another program: RSnA.
  Taken over from another program: RSnB.
  Taken over from another program: RSnC.
-/
import Derived.Test.YtjoomlpocpdonaaGreatDoorJSnapL
import Derived.Lib.IndexLaws
import Derived.Laws.OwnMore
namespace Go.Proofs.YtjoomlpocpdonaaGreatDoor
open Go.RowKit
def StrsAt (w : World) (g : Nat) (l : List ByteArray) : Prop := ∀ j (h : j < l.length), w.cell? ⟨g, j, none⟩ = some (.string l[j])
theorem StrsAt.below {w w' : World} {g B : Nat} {l : List ByteArray} (h : StrsAt w g l) (hb : Below B w w') (hB : g < B) : StrsAt w' g l := fun j hj =>
  (hb.cell (p := ⟨g, j, none⟩) hB).trans (h j hj)
theorem OwnS.shape {w : World} {B : Nat} {v : Value} {l : List ByteArray} (h : OwnS w B v l) : ∃ a c, v = .slice a l.length c ∧ (l ≠ [] → ∃ g, a = some ⟨g, 0, none⟩ ∧ B ≤ g ∧ g < w.heap.size ∧ StrsAt w g l) := by
  have h' := h
  rcases h.2 with ⟨hnil, hn⟩ | ⟨g, cap, cur, rfl, hbase, hbk, h1, h2, h3, h4⟩
  · refine ⟨none, 0, by rw [hnil, hn], fun hne => ?_⟩
    exact absurd (List.eq_nil_of_length_eq_zero hn) hne
  · refine ⟨_, cap, rfl, fun _ => ⟨g, rfl, hbase, (Array.getElem?_eq_some_iff.1 hbk).1, fun j hj => ?_⟩⟩
    have := World.ownsRow.cells h' (g := g) rfl j (.string l[j]) (by unfold strsV; simp [hj])
    rw [Addr.add_lit, Nat.zero_add] at this
    exact this
end Go.Proofs.YtjoomlpocpdonaaGreatDoor
namespace Go.Proofs.YtjoomlpocpdonaaGreatDoor
open Go.RowKit
theorem own_mono {w : World} {B B' : Nat} {v : Value} {l : List ByteArray} (h : OwnS w B v l) (hB : B' ≤ B) : OwnS w B' v l := by
  refine ⟨h.1, ?_⟩
  rcases h.2 with hn | ⟨g, cap, cur, h1, h2, h3⟩
  · exact .inl hn
  · exact .inr ⟨g, cap, cur, h1, Nat.le_trans hB h2, h3⟩
end Go.Proofs.YtjoomlpocpdonaaGreatDoor
namespace Go.Proofs.YtjoomlpocpdonaaGreatDoor
open Go.RowKit
/-- the list of texts that a value is -/
def StrsV (w : World) (v : Value) (l : List ByteArray) : Prop := ∃ a c, v = .slice a l.length c ∧ (l ≠ [] → ∃ g, a = some ⟨g, 0, none⟩ ∧ g < w.heap.size ∧ StrsAt w g l)
theorem OwnS.strs {w : World} {B : Nat} {v : Value} {l : List ByteArray} (h : OwnS w B v l) : StrsV w v l := by
  obtain ⟨a, c, hv, hs⟩ := h.shape
  exact ⟨a, c, hv, fun hne => by obtain ⟨g, h1, _, h2, h3⟩ := hs hne; exact ⟨g, h1, h2, h3⟩⟩
theorem StrsV.below {w w' : World} {v : Value} {l : List ByteArray} (h : StrsV w v l) (hb : Below w.heap.size w w') : StrsV w' v l := by
  obtain ⟨a, c, hv, hs⟩ := h
  exact ⟨a, c, hv, fun hne => by obtain ⟨g, h1, h2, h3⟩ := hs hne; exact ⟨g, h1, Nat.lt_of_lt_of_le h2 hb.size, h3.below hb h2⟩⟩
/-- alike up to k -/
def SameTo (l m : List ByteArray) (k : Nat) : Prop := ∀ t (h : t < l.length) (h2 : t < m.length), t < k → l[t] = m[t]
open Classical in
noncomputable def sameB (l m : List ByteArray) : Bool := decide (l = m)
set_option maxHeartbeats 1600000 in
theorem same_any (v1 v2 : Value) (l m : List ByteArray) (w : World) (h1 : StrsV w v1 l) (h2 : StrsV w v2 m) (hl : l.length ≤ 1000000) :
    Calls Tryz.prog 13 #[v1, v2] w fun e w' => e = .returned (.bool (sameB l m)) ∧ Below w.heap.size w w' := by
  obtain ⟨a1, c1, rfl, hs1⟩ := h1
  obtain ⟨a2, c2, rfl, hs2⟩ := h2
  have HS1 := hidM hs1
  have HS2 := hidM hs2
  clear hs1 hs2
  by_cases hlen : l.length = m.length
  · have HE := hidM hlen
    have g0 : ((l.length : Int) == (m.length : Int)) = true := by simp; omega
    clear hlen
    go_enter Tryz.func13, Tryz.ntmps13
    go_wp2
    go_loopw [5, 13] (fun _ i wr => ∃ (k : Nat), k ≤ l.length ∧ i = .int .i64 k ∧ SameTo l m k ∧ Below w.heap.size w wr) (fun _ i _ => l.length - (intOf i).toNat)
    case atStart => exact ⟨0, Nat.zero_le _, rfl, fun t _ _ h => by omega, Below.refl _ _⟩
    case round =>
      obtain ⟨k, hk, rfl, hd, hb⟩ := hrel
      have HD := hidM hd
      have HB := hidM hb
      clear hd hb
      by_cases hlt : k < l.length
      · have kk : (k : Int) < (l.length : Int) := by omega
        have hlt2 : k < m.length := by have := HE.out; omega
        have kk2 : (k : Int) < (m.length : Int) := by omega
        have k0 : (0 : Int) ≤ (k : Int) := by omega
        obtain ⟨g, rfl, hg, hst⟩ := HS1.out (fun h => by rw [h] at hlt; simp at hlt)
        obtain ⟨g2, rfl, hg2, hst2⟩ := HS2.out (fun h => by rw [h] at hlt2; simp at hlt2)
        have d1 := (hst.below HB.out hg) k hlt
        have d2 := (hst2.below HB.out hg2) k hlt2
        clear hst hst2
        by_cases he : l[k] = m[k]
        · have HN : Hid (SameTo l m (k + 1)) := fun t h h9 ht => by
            by_cases h5 : t < k
            · exact HD.out t h h9 h5
            · have : t = k := by omega
              subst this; exact he
          rw [he] at d1
          generalize m[k] = X at *
          clear he
          go_wp2
          go_quiet (fail)
          go_wp2
          go_roundw
          case rel => exact ⟨k + 1, by omega, by go_num, HN.out, below_drewN HB.out _⟩
          case measure => (show l.length - ((k : Int) + 1).toNat < l.length - ((k : Int)).toNat); omega
        · have HT : Hid (sameB l m = false) := by
            unfold Hid sameB
            simp only [decide_eq_false_iff_not]
            intro h
            subst h
            exact he rfl
          have e1 : (l[k].toList == m[k].toList) = false := by
            rw [ByteArray.toList_eq, ByteArray.toList_eq]
            exact beq_false_of_ne fun h => he (ba_eq h)
          generalize m[k] = X at *
          generalize l[k] = Y at *
          clear he
          go_wp2
          go_quiet (fail)
          go_wp2
          go_ret
          exact ⟨by rw [HT.out]; rfl, below_drewN HB.out _⟩
      · have HT : Hid (sameB l m = true) := by
          unfold Hid sameB
          simp only [decide_eq_true_eq]
          refine List.ext_getElem HE.out fun t h9 h8 => HD.out t h9 h8 (by omega)
        have kk : ¬ (k : Int) < (l.length : Int) := by omega
        go_wp2
        go_ret
        exact ⟨by rw [HT.out]; rfl, HB.out⟩
  · have HT : Hid (sameB l m = false) := by
      unfold Hid sameB
      simp only [decide_eq_false_iff_not]
      intro h; exact hlen (by rw [h])
    have g0 : ((l.length : Int) == (m.length : Int)) = false := by simp; omega
    clear hlen
    go_enter Tryz.func13, Tryz.ntmps13
    go_wp2
    go_ret
    exact ⟨by rw [HT.out]; rfl, Below.refl _ _⟩
end Go.Proofs.YtjoomlpocpdonaaGreatDoor
namespace Go.Proofs.YtjoomlpocpdonaaGreatDoor
open Go.RowKit
end Go.Proofs.YtjoomlpocpdonaaGreatDoor
namespace Go.Proofs.YtjoomlpocpdonaaGreatDoor
open Go.RowKit
theorem less_cmp0 (x : List UInt8) : ∀ y, Op.bytesLess x y = decide (Lib.compareBytes x y < 0) := by
  induction x with
  | nil => intro y; cases y <;> simp [Op.bytesLess, Lib.compareBytes]
  | cons a x ih =>
    intro y
    cases y with
    | nil => simp [Op.bytesLess, Lib.compareBytes]
    | cons b y =>
      rw [cmp_cons, Op.bytesLess, ih y]
      by_cases h1 : a.toNat < b.toNat
      · have : a < b := (u8_lt a b).2 h1
        rw [if_pos h1]; simp [this]
      · have h1' : ¬ a < b := fun h => h1 ((u8_lt a b).1 h)
        rw [if_neg h1]
        by_cases h2 : b.toNat < a.toNat
        · have : (a == b) = false := beq_false_of_ne fun h => by rw [h] at h2; omega
          rw [if_pos h2, this]; simp [h1']
        · have : a = b := by rw [← UInt8.toNat_inj]; omega
          rw [if_neg h2, this]; simp
end Go.Proofs.YtjoomlpocpdonaaGreatDoor
namespace Go.Proofs.YtjoomlpocpdonaaGreatDoor
open Go.RowKit
/-- the parts between the slashes -/
def partsL : List UInt8 → List (List UInt8)
  | [] => [[]]
  | c :: l => if c = 47 then [] :: partsL l else match partsL l with
    | h :: t => (c :: h) :: t
    | [] => [[c]]
theorem partsL_ne (l : List UInt8) : partsL l ≠ [] := by
  cases l with
  | nil => simp [partsL]
  | cons c l =>
    unfold partsL
    split
    · simp
    · split <;> simp
theorem partsL_cons (c : UInt8) (l : List UInt8) : partsL (c :: l) = if c = 47 then [] :: partsL l else match partsL l with
    | h :: t => (c :: h) :: t
    | [] => [[c]] := rfl
theorem partsL_app (a b : List UInt8) : partsL (a ++ 47 :: b) = partsL a ++ partsL b := by
  induction a with
  | nil => simp [partsL]
  | cons c a ih =>
    rw [List.cons_append, partsL_cons, partsL_cons c a]
    by_cases hc : c = 47
    · rw [if_pos hc, if_pos hc, ih]; rfl
    · rw [if_neg hc, if_neg hc, ih]
      cases hp : partsL a with
      | nil => exact absurd hp (partsL_ne a)
      | cons h t => rfl
theorem partsL_none (l : List UInt8) (h : (47 : UInt8) ∉ l) : partsL l = [l] := by
  induction l with
  | nil => rfl
  | cons c l ih =>
    unfold partsL
    rw [if_neg (fun e => h (by simp [e])), ih (fun e => h (List.mem_cons_of_mem _ e))]
theorem index_mem (l : List UInt8) (h : Lib.indexByte l 47 = -1) : (47 : UInt8) ∉ l := by
  intro hm
  obtain ⟨k, hk, he⟩ := List.mem_iff_getElem.1 hm
  exact Lib.indexByte_none h k (by rw [List.getElem?_eq_getElem hk, he])
theorem splitB_parts : ∀ (k : Nat) (s : ByteArray), Lib.countByte s.data.toList 47 = k → (Lib.splitB slash 0 k s).map (fun b => b.data.toList) = partsL s.data.toList := by
  intro k
  induction k with
  | zero =>
    intro s h
    rw [Lib.splitB_zero]
    unfold Lib.countByte at h
    rw [partsL_none _ (List.count_eq_zero.1 h)]; rfl
  | succ k ih =>
    intro s h
    unfold Lib.splitB
    rw [index_slash]
    by_cases hi : Lib.indexByte s.data.toList 47 = -1
    · rw [if_pos (by simp [hi]), partsL_none _ (index_mem _ hi)]; rfl
    · rw [if_neg (by simpa using hi)]
      obtain ⟨o, ho⟩ : ∃ o : Nat, Lib.indexByte s.data.toList 47 = o := ⟨(Lib.indexByte s.data.toList 47).toNat, by have := Lib.indexByte_ge s.data.toList 47; omega⟩
      rw [ho]
      have hsome := Lib.indexByte_some ho
      obtain ⟨hol, hoe⟩ := List.getElem?_eq_some_iff.1 hsome.1
      have hl : s.data.toList = s.data.toList.take o ++ 47 :: s.data.toList.drop (o + 1) := by
        conv => lhs; rw [← List.take_append_drop o s.data.toList, List.drop_eq_getElem_cons hol, hoe]
      have hno : (47 : UInt8) ∉ s.data.toList.take o := by
        intro hm
        obtain ⟨j, hj, he⟩ := List.mem_iff_getElem.1 hm
        have hj2 : j < o := by rw [List.length_take] at hj; omega
        exact hsome.2 j hj2 (by rw [List.getElem_take] at he; rw [List.getElem?_eq_getElem (by omega), he])
      have e1 : (s.extract 0 ((o : Int).toNat + 0)).data.toList = s.data.toList.take o := by rw [Lib.extract_data]; simp
      have e2 : (s.extract ((o : Int).toNat + slash.size) s.size).data.toList = s.data.toList.drop (o + 1) := by
        rw [Lib.extract_data]
        rw [show (o : Int).toNat + slash.size = o + 1 from rfl]
        refine List.take_of_length_le ?_
        rw [List.length_drop, ← Lib.size_eq]; omega
      have hcount : Lib.countByte (s.data.toList.drop (o + 1)) 47 = k := by
        unfold Lib.countByte at h ⊢
        rw [hl, List.count_append, List.count_cons_self, List.count_eq_zero.2 hno] at h
        omega
      rw [List.map_cons, e1, ih _ (by rw [e2]; exact hcount), e2]
      conv => rhs; rw [hl]
      rw [partsL_app, partsL_none _ hno]; rfl
theorem parts_eq (s : ByteArray) : (partsB s).map (fun b => b.data.toList) = partsL s.data.toList := by
  unfold partsB
  rw [count_slash]
  exact splitB_parts _ s rfl
/-- a path, over its bytes -/
def cleanL (l : List UInt8) : Bool := decide (l.length ≤ 200) && plainL l && (partsL l).all partOk
theorem clean_eq (s : ByteArray) : cleanB s = cleanL s.data.toList := by
  unfold cleanB cleanL wholeL
  rw [← parts_eq, List.all_map, Lib.size_eq]; rfl
theorem cleanL_iff {l : List UInt8} : cleanL l = true ↔ l.length ≤ 200 ∧ plainL l = true ∧ ∀ p ∈ partsL l, partOk p = true := by
  unfold cleanL
  simp only [Bool.and_eq_true, decide_eq_true_eq, List.all_eq_true]
  exact ⟨fun h => ⟨h.1.1, h.1.2, h.2⟩, fun h => ⟨⟨h.1, h.2.1⟩, h.2.2⟩⟩
end Go.Proofs.YtjoomlpocpdonaaGreatDoor
namespace Go.Proofs.YtjoomlpocpdonaaGreatDoor
open Go.RowKit
def RGetPost (fs : List FileB) (p : ByteArray) (e : Ending) : Prop := (∃ f ∈ fs, f.1 = p ∧ e = .returned (.tuple #[.string f.2, .bool true])) ∨ ((∀ f ∈ fs, f.1 ≠ p) ∧ e = .returned (.tuple #[.string .empty, .bool false]))
set_option maxHeartbeats 1600000 in
theorem rget_any (b off c : Nat) (fs : List FileB) (p : ByteArray) (w : World) (hb : b < w.heap.size) (hf : FilesAt w b off fs) (hl : fs.length ≤ 1000000) :
    Calls Tryz.prog 33 #[.slice (some ⟨b, off, none⟩) fs.length c, .string p] w fun e w' => RGetPost fs p e ∧ Below w.heap.size w w' := by
  have HF := hidM hf
  clear hf
  go_enter Tryz.func33, Tryz.ntmps33
  go_wp2_with fail
  go_loopw [7, 10] (fun _ i wr => ∃ (k : Nat), k ≤ fs.length ∧ i = .int .i64 k ∧ (∀ t (h : t < fs.length), t < k → fs[t].1 ≠ p) ∧ Below w.heap.size w wr) (fun _ i _ => fs.length - (intOf i).toNat)
  case atStart => exact ⟨0, Nat.zero_le _, rfl, fun t _ h => by omega, Below.refl _ _⟩
  case round =>
    obtain ⟨k, hk, rfl, hd, hbr⟩ := hrel
    have HD := hidM hd
    have HB := hidM hbr
    have hsz := hbr.size
    clear hd hbr
    by_cases hlt : k < fs.length
    · have kk : (k : Int) < (fs.length : Int) := by omega
      have c1 := (HF.out.below HB.out hb k hlt).1
      have c2 := (HF.out.below HB.out hb k hlt).2
      have HMEM : Hid (fs[k] ∈ fs) := List.getElem_mem hlt
      by_cases he : fs[k].1 = p
      · have HP : Hid (∀ e, e = .returned (.tuple #[.string fs[k].2, .bool true]) → RGetPost fs p e) := fun e h => .inl ⟨fs[k], HMEM.out, he, h⟩
        rw [he] at c1
        generalize fs[k].2 = D at *
        clear he
        go_wp2_with fail
        go_ret2
        exact ⟨HP.out _ rfl, HB.out.alloc hsz _⟩
      · have e1 : (fs[k].1.toList == p.toList) = false := by
          rw [ByteArray.toList_eq, ByteArray.toList_eq]
          exact beq_false_of_ne fun h => he (ba_eq h)
        have HN : Hid (∀ t (h : t < fs.length), t < k + 1 → fs[t].1 ≠ p) := fun t h ht => by
          by_cases h5 : t < k
          · exact HD.out t h h5
          · have : t = k := by omega
            subst this; exact he
        generalize fs[k].1 = X at *
        generalize fs[k].2 = D at *
        clear he
        go_wp2_with fail
        go_roundw
        case rel => exact ⟨k + 1, by omega, by go_num, HN.out, HB.out.alloc hsz _⟩
        case measure => (show fs.length - ((k : Int) + 1).toNat < fs.length - ((k : Int)).toNat); omega
    · obtain rfl : k = fs.length := by omega
      have HP : Hid (∀ e, e = .returned (.tuple #[.string .empty, .bool false]) → RGetPost fs p e) := fun e h => .inr ⟨fun f hf => by
        obtain ⟨t, ht, rfl⟩ := List.mem_iff_getElem.1 hf
        exact HD.out t ht ht, h⟩
      go_wp2_with fail
      go_ret2
      exact ⟨HP.out _ rfl, HB.out⟩
theorem parts_snoc (l : List UInt8) (c : UInt8) (h : c ≠ 47) : ∃ I Z, partsL l = I ++ [Z] ∧ partsL (l ++ [c]) = I ++ [Z ++ [c]] := by
  induction l with
  | nil => exact ⟨[], [], rfl, by simp [partsL, h]⟩
  | cons x l ih =>
    obtain ⟨I, Z, h1, h2⟩ := ih
    rw [List.cons_append, partsL_cons, partsL_cons, h1, h2]
    by_cases hx : x = 47
    · rw [if_pos hx, if_pos hx]
      exact ⟨[] :: I, Z, rfl, rfl⟩
    · rw [if_neg hx, if_neg hx]
      cases I with
      | nil => exact ⟨[], x :: Z, rfl, rfl⟩
      | cons a t => exact ⟨(x :: a) :: t, Z, rfl, rfl⟩
theorem parts_slash (l : List UInt8) : partsL (l ++ [47]) = partsL l ++ [[]] := partsL_app l []
def mkB (l : List UInt8) : ByteArray := ⟨l.toArray⟩
def rpB (s : ByteArray) (k : Nat) : List ByteArray := (partsL (s.data.toList.take k)).map mkB
theorem rpB_slash (s : ByteArray) (k : Nat) (h : k < s.size) (hc : s[k] = 47) : rpB s (k + 1) = rpB s k ++ [⟨#[]⟩] := by
  unfold rpB
  rw [take_one s k h, hc, parts_slash, List.map_append]; rfl
theorem rpB_other (s : ByteArray) (k : Nat) (h : k < s.size) (hc : s[k] ≠ 47) : ∃ I Z, rpB s k = I ++ [Z] ∧ rpB s (k + 1) = I ++ [Z ++ s.extract k (k + 1)] := by
  obtain ⟨I, Z, h1, h2⟩ := parts_snoc (s.data.toList.take k) s[k] hc
  refine ⟨I.map mkB, mkB Z, by unfold rpB; rw [h1, List.map_append]; rfl, ?_⟩
  unfold rpB
  rw [take_one s k h, h2, List.map_append]
  congr 1
  simp only [List.map_cons, List.map_nil, List.cons.injEq, and_true]
  refine ba_eq ?_
  have e : (s.extract k (k + 1)).data.toList = [s[k]] := by
    rw [Lib.extract_data]
    have hl : k < s.data.toList.length := by rw [← Lib.size_eq]; exact h
    rw [List.drop_eq_getElem_cons hl]
    simp
    rfl
  rw [ByteArray.data_append, Array.toList_append, e]
  simp [mkB]
theorem parts_le (l : List UInt8) : ∀ p ∈ partsL l, p.length ≤ l.length := by
  induction l with
  | nil => intro p hp; simp [partsL] at hp; subst hp; simp
  | cons x l ih =>
    intro p hp
    rw [partsL_cons] at hp
    split at hp
    · rcases List.mem_cons.1 hp with rfl | hp
      · simp
      · have := ih p hp; simp; omega
    · split at hp
      · rename_i a t hh
        rcases List.mem_cons.1 hp with rfl | hp
        · have := ih a (by rw [hh]; simp); simp; omega
        · have := ih p (by rw [hh]; exact List.mem_cons_of_mem _ hp); simp; omega
      · simp at hp; subst hp; simp
theorem rpB_size (s : ByteArray) (k : Nat) : ∀ x ∈ rpB s k, x.size ≤ k := by
  intro x hx
  unfold rpB at hx
  obtain ⟨l, hl, rfl⟩ := List.mem_map.1 hx
  have h1 := parts_le _ l hl
  have h2 : (s.data.toList.take k).length ≤ k := by rw [List.length_take]; omega
  show l.toArray.size ≤ k
  rw [List.size_toArray]; omega
theorem rpB_len (s : ByteArray) (k : Nat) : (rpB s k).length ≤ k + 1 ∧ 0 < (rpB s k).length := by
  unfold rpB
  rw [List.length_map]
  refine ⟨?_, List.length_pos_iff.2 (partsL_ne _)⟩
  have : ∀ l : List UInt8, (partsL l).length ≤ l.length + 1 := fun l => by
    induction l with
    | nil => simp [partsL]
    | cons x l ih =>
      rw [partsL_cons]
      split
      · simp; omega
      · split
        · rename_i h t hh; rw [hh] at ih; simp at ih ⊢; omega
        · simp
  have h1 := this (s.data.toList.take k)
  have h2 : (s.data.toList.take k).length ≤ k := by rw [List.length_take]; omega
  omega
set_option maxHeartbeats 1600000 in
theorem rparts_any (s : ByteArray) (w : World) (hs : s.size ≤ 1000000) :
    Calls Tryz.prog 42 #[.string s] w fun e w' => SlRet w' w.heap.size (rpB s s.size) e ∧ Below w.heap.size w w' := by
  obtain ⟨i0, hi, hz0, hz1, hz2⟩ := info_parts info9
  go_enter Tryz.func42, Tryz.ntmps42
  go_wp2_with fail
  have HO0 : Hid (OwnS (w.alloc (.cells #[.string ⟨#[]⟩] 9)) w.heap.size (.slice (some ⟨w.heap.size, 0, none⟩) 1 1) (rpB s 0)) :=
    ⟨by simp [rpB, partsL, strsV], .inr ⟨w.heap.size, 1, #[.string ⟨#[]⟩], rfl, Nat.le_refl _, heap_alloc_new w _, Nat.le_refl _, by simp [maxLen], rfl, rfl⟩⟩
  go_loopw [3, 4] (fun v i wr => ∃ (k : Nat), k ≤ s.size ∧ i = .int .i64 k ∧ OwnS wr w.heap.size v (rpB s k) ∧ Below w.heap.size w wr) (fun _ i _ => s.size - (intOf i).toNat)
  case atStart => exact ⟨0, Nat.zero_le _, rfl, HO0.out, (Below.refl _ _).alloc (Nat.le_refl _) _⟩
  case round =>
    obtain ⟨k, hk, rfl, hown, hbr⟩ := hrel
    have HO := hidM hown
    have HB := hidM hbr
    have hsz := hbr.size
    clear hown hbr HO0
    have hln := rpB_len s k
    by_cases hlt : k < s.size
    · have kk : (k : Int) < (s.size : Int) := by omega
      obtain ⟨ch, hch⟩ : ∃ ch, ch = s[k].toNat := ⟨_, rfl⟩
      have r0 : (s[k].toNat : Int) = (ch : Int) := by omega
      by_cases h47 : s[k] = 47
      · have HT := hidM (rpB_slash s k hlt h47)
        have r47 : (s[k].toNat : Int) = 47 := by rw [h47]; rfl
        generalize rpB s k = L at *
        clear h47 r0 hch
        go_wp2_with (first
          | (at_builtin; refine wpList_append_own _ rfl _ _ 37 rfl w.heap.size 9 i0 (.string .empty) 1 16 Tryz.underlying37 hi hz0 hz1 hz2 rfl (by decide) _ _ _ rfl (World.ownsRow.alloc HO.out _) ⟨wr.heap.size, 0, none⟩ 1 1 [.string ⟨#[]⟩] ?d0 rfl ?d1 ?d2 ?d3 ?d4 ?d5 ?_))
        case d0 => rfl
        case d1 => exact cell_new_at _ _ _ _ rfl
        case d2 => intro u hu; simp at hu; subst hu; rfl
        case d3 => unfold maxLen; omega
        case d4 => omega
        case d5 => simp; omega
        intro v' w2 hown' hgrow _
        have HO2 := hidM (OwnS.push hown')
        have HB3 := hidM (OwnS.below HO.out HB.out hsz hgrow)
        clear hown' hgrow
        go_wp2_with fail
        go_roundw
        case rel => exact ⟨k + 1, by omega, by go_num, by rw [HT.out]; exact HO2.out, HB3.out⟩
        case measure => (show s.size - ((k : Int) + 1).toNat < s.size - ((k : Int)).toNat); omega
      · have qc : ((ch : Int) == 47) = false := by
          have : ch ≠ 47 := fun e => h47 (by rw [← UInt8.toNat_inj, ← hch, e]; rfl)
          simp; omega
        obtain ⟨I, Z, h1, h2⟩ := rpB_other s k hlt h47
        have HT := hidM h2
        have hzs := rpB_size s k Z (by rw [h1]; simp)
        rw [h1] at HO hln
        clear h1 h2 h47 hch
        obtain ⟨a, cp, rfl, hsh⟩ := HO.out.shape
        obtain ⟨g, rfl, hg1, hg2, hst⟩ := hsh (by simp)
        obtain ⟨m, hm⟩ : ∃ m, m = I.length := ⟨_, rfl⟩
        have hLm : (I ++ [Z]).length = m + 1 := by rw [hm]; simp
        have cm : wr.cell? ⟨g, m, none⟩ = some (.string Z) := by
          have := hst m (by rw [hLm]; omega)
          rw [this]; simp [hm]
        have fz : wr.frozen? ⟨g, m, none⟩ = false := World.ownsRow.frozenAt HO.out m
        have HO' : Hid (wr.ownsRow w.heap.size 9 1 (.slice (some ⟨g, 0, none⟩) (m + 1) cp) (m + 1) (strsV (I ++ [Z]))) := by
          have := HO.out
          unfold OwnS at this
          rw [hLm] at this
          exact this
        have HST : Hid (∀ (W : World) (x : ByteArray), W.ownsRow w.heap.size 9 1 (.slice (some ⟨g, 0, none⟩) (m + 1) cp) (m + 1) ((strsV (I ++ [Z])).set m (.string x)) → OwnS W w.heap.size (.slice (some ⟨g, 0, none⟩) (m + 1) cp) (I ++ [x])) := fun W x h => by
          unfold OwnS
          have e1 : (I ++ [x]).length = m + 1 := by rw [hm]; simp
          have e2 : (strsV (I ++ [Z])).set m (.string x) = strsV (I ++ [x]) := by
            unfold strsV
            rw [List.map_append, List.map_append, List.set_append_right _ _ (by simp [hm])]
            simp [hm]
          rw [e1, ← e2]; exact h
        have hlm : m ≤ k := by have := hln.1; omega
        rw [hLm]
        have j1 : ((m + 1 : Nat) : Int) - 1 = (m : Int) := by omega
        have j2 : (m : Int) < ((m + 1 : Nat) : Int) := by omega
        have j3 : (k : Int) + 1 = ((k + 1 : Nat) : Int) := by omega
        have j4 : ((k + 1 : Nat) : Int) ≤ (s.size : Int) := by omega
        have j5 : (k : Int) ≤ ((k + 1 : Nat) : Int) := by omega
        have hes : (s.extract k (k + 1)).size ≤ 1 := by rw [ByteArray.size_extract]; omega
        clear hsh hst hLm hln HO hm
        generalize m + 1 = m1 at *
        generalize k + 1 = k1 at *
        go_wp2_with fail
        go_region
        have HSD := hidM (World.ownsRow.stored HO'.out m (.string (Z ++ s.extract k k1)))
        have HO2 : Hid (OwnS (wr.setCell ⟨g, m, none⟩ (.string (Z ++ s.extract k k1))).drew w.heap.size (.slice (some ⟨g, 0, none⟩) m1 cp) (I ++ [Z ++ s.extract k k1])) := HST.out _ _ HSD.out.1.drew
        have HB2 : Hid (Below w.heap.size w (wr.setCell ⟨g, m, none⟩ (.string (Z ++ s.extract k k1))).drew) := below_drewN (HB.out.grown HSD.out.2 hsz (fun j hj => by cases hj; exact hg1)) 1
        generalize (wr.setCell ⟨g, m, none⟩ (.string (Z ++ s.extract k k1))).drew = w2 at *
        clear HSD cm fz HO' HST
        go_wp2_with fail
        go_roundw
        case rel => exact ⟨k1, by omega, by go_num, by rw [HT.out]; exact HO2.out, HB2.out⟩
        case measure => (show s.size - ((k1 : Int)).toNat < s.size - ((k : Int)).toNat); omega
    · obtain rfl : k = s.size := by omega
      go_wp2_with fail
      go_ret
      exact ⟨⟨_, HO.out, rfl⟩, HB.out⟩
end Go.Proofs.YtjoomlpocpdonaaGreatDoor
namespace Go.Proofs.YtjoomlpocpdonaaGreatDoor
open Go.RowKit
theorem rpB_all (s : ByteArray) : rpB s s.size = (partsL s.data.toList).map mkB := by
  unfold rpB
  rw [List.take_of_length_le (by rw [← Lib.size_eq]; exact Nat.le_refl _)]
set_option maxHeartbeats 1600000 in
theorem rclean_any (s : ByteArray) (w : World) :
    Calls Tryz.prog 39 #[.string s] w fun e w' => e = .returned (.bool (cleanB s)) ∧ Below w.heap.size w w' := by
  rw [clean_eq]
  have hsl : s.data.toList.length = s.size := (Lib.size_eq s).symm
  by_cases hs : s.size ≤ 200
  · have g : decide ((200 : Int) < (s.size : Int)) = false := by simp; omega
    have HPT := hidM (fun W => rparts_any s W (by omega))
    rw [rpB_all] at HPT
    have HLN : Hid ((partsL s.data.toList).length ≤ 201) := by
      have := (rpB_len s s.size).1
      rw [rpB_all, List.length_map] at this
      unfold Hid; omega
    have HCL : Hid (cleanL s.data.toList = (plainL s.data.toList && (partsL s.data.toList).all partOk)) := by
      unfold Hid cleanL
      rw [show decide (s.data.toList.length ≤ 200) = true by rw [hsl]; simpa using hs]; rfl
    clear hsl
    go_enter Tryz.func39, Tryz.ntmps39
    go_wp2_with fail
    go_loopw [3] (fun i wr => ∃ (k : Nat), k ≤ s.size ∧ i = .int .i64 k ∧ plainL (s.data.toList.take k) = true ∧ wr = w) (fun i _ => s.size - (intOf i).toNat)
    case atStart => exact ⟨0, Nat.zero_le _, rfl, rfl, rfl⟩
    case round =>
      obtain ⟨k, hk, rfl, hd, rfl⟩ := hrel
      have HD := hidM hd
      clear hd
      by_cases hlt : k < s.size
      · have kk : (k : Int) < (s.size : Int) := by omega
        obtain ⟨c, hcc⟩ : ∃ c, c = s[k].toNat := ⟨_, rfl⟩
        have r0 : (s[k].toNat : Int) = (c : Int) := by omega
        by_cases hc : 32 ≤ s[k].toNat ∧ s[k].toNat ≤ 126
        · have HN : Hid (plainL (s.data.toList.take (k + 1)) = true) := by
            unfold Hid
            rw [take_one s k hlt]
            unfold plainL
            rw [List.all_append, show (s.data.toList.take k).all (fun c => decide (32 ≤ c.toNat ∧ c.toNat ≤ 126)) = true from HD.out]
            simp [hc]
          rw [← hcc] at hc
          obtain ⟨hc1, hc2⟩ := hc
          clear hcc
          have q1 : decide ((c : Int) < 32) = false := by simp; omega
          have q2 : decide ((126 : Int) < (c : Int)) = false := by simp; omega
          go_wp2_with fail
          go_roundw
          case rel => exact ⟨k + 1, by omega, by go_num, HN.out, trivial⟩
          case measure => (show s.size - ((k : Int) + 1).toNat < s.size - ((k : Int)).toNat); omega
        · have HF : Hid (cleanL s.data.toList = false) := by unfold Hid; rw [HCL.out, plain_no s k hlt hc]; rfl
          rw [← hcc] at hc
          clear hcc
          by_cases hc1 : c < 32
          · have q1 : decide ((c : Int) < 32) = true := by simp; omega
            go_wp2_with fail
            go_ret
            exact ⟨by rw [HF.out]; rfl, Below.refl _ _⟩
          · have q1 : decide ((c : Int) < 32) = false := by simp; omega
            have q2 : decide ((126 : Int) < (c : Int)) = true := by simp; omega
            go_wp2_with fail
            go_ret
            exact ⟨by rw [HF.out]; rfl, Below.refl _ _⟩
      · obtain rfl : k = s.size := by omega
        have HPL : Hid (plainL s.data.toList = true) := by
          have := HD.out
          rwa [List.take_of_length_le (by rw [← Lib.size_eq]; exact Nat.le_refl _)] at this
        have HC2 : Hid (cleanL s.data.toList = (partsL s.data.toList).all partOk) := by unfold Hid; rw [HCL.out, HPL.out]; rfl
        clear HCL HD HPL
        generalize partsL s.data.toList = ps at *
        go_wp2_with fail
        refine (HPT.out _).mono ?_
        rintro _ w1 ⟨⟨v, hv, rfl⟩, hb1⟩
        obtain ⟨a, cp, hvv, hst⟩ := hv.strs
        rw [List.length_map] at hvv
        subst hvv
        have HST : Hid (∀ m (h : m < ps.length), ∃ g, a = some ⟨g, 0, none⟩ ∧ w1.cell? ⟨g, m, none⟩ = some (.string (mkB ps[m]))) := fun m h => by
          obtain ⟨g, h1, _, h3⟩ := hst (fun hh => by have := congrArg List.length hh; simp at this; rw [this] at h; simp at h)
          have := h3 m (by simpa using h)
          exact ⟨g, h1, by rw [this]; simp⟩
        have HB1 := hidM hb1
        have hln := HLN.out
        clear hv hb1 hst HPT
        go_wp2_with fail
        go_loopw [28] (fun i wx => ∃ (m : Nat), m ≤ ps.length ∧ i = .int .i64 m ∧ (∀ t (h : t < ps.length), t < m → partOk ps[t] = true) ∧ wx = w1) (fun i _ => ps.length - (intOf i).toNat)
        case atStart => exact ⟨0, Nat.zero_le _, rfl, fun t _ h => by omega, rfl⟩
        case round =>
          obtain ⟨m, hm, rfl, hd, rfl⟩ := hrel
          have HD := hidM hd
          clear hd
          by_cases hml : m < ps.length
          · have mk : (m : Int) < (ps.length : Int) := by omega
            obtain ⟨g, rfl, y0⟩ := HST.out m hml
            have hxd : (mkB ps[m]).toList = ps[m] := by rw [ByteArray.toList_eq]; simp [mkB]
            have HOK : Hid (partOk (mkB ps[m]).toList = true → ∀ t (h : t < ps.length), t < m + 1 → partOk ps[t] = true) := fun he t h ht => by
              rw [hxd] at he
              by_cases h5 : t < m
              · exact HD.out t h h5
              · have : t = m := by omega
                subst this; exact he
            have HNO : Hid (partOk (mkB ps[m]).toList = false → cleanL s.data.toList = false) := fun he => by
              rw [hxd] at he
              rw [HC2.out]
              refine Bool.eq_false_iff.2 fun hall => ?_
              have := List.all_eq_true.1 hall ps[m] (List.getElem_mem hml)
              rw [he] at this; cases this
            clear hxd
            generalize mkB ps[m] = X at *
            by_cases h1 : X.toList = []
            · have HF := hidM (HNO.out (by rw [h1]; rfl))
              have e1 : (X.toList == []) = true := by rw [h1]; rfl
              clear h1
              go_wp2_with fail
              go_ret
              exact ⟨by rw [HF.out]; rfl, HB1.out⟩
            have e1 : (X.toList == []) = false := beq_false_of_ne h1
            by_cases h2 : X.toList = [46]
            · have HF := hidM (HNO.out (by rw [h2]; rfl))
              have e2 : (X.toList == [46]) = true := by rw [h2]; rfl
              clear h1 h2
              go_wp2_with fail
              go_ret
              exact ⟨by rw [HF.out]; rfl, HB1.out⟩
            have e2 : (X.toList == [46]) = false := beq_false_of_ne h2
            by_cases h3 : X.toList = [46, 46]
            · have HF := hidM (HNO.out (by rw [h3]; rfl))
              have e3 : (X.toList == [46, 46]) = true := by rw [h3]; rfl
              clear h1 h2 h3
              go_wp2_with fail
              go_ret
              exact ⟨by rw [HF.out]; rfl, HB1.out⟩
            have e3 : (X.toList == [46, 46]) = false := beq_false_of_ne h3
            have HN := hidM (HOK.out (by unfold partOk; rw [e1, e2, e3]; rfl))
            clear h1 h2 h3
            go_wp2_with fail
            go_roundw
            case rel => exact ⟨m + 1, by omega, by go_num, HN.out, trivial⟩
            case measure => (show ps.length - ((m : Int) + 1).toNat < ps.length - ((m : Int)).toNat); omega
          · have HF : Hid (cleanL s.data.toList = true) := by
              unfold Hid
              rw [HC2.out, List.all_eq_true]
              intro p hp
              obtain ⟨t, ht, rfl⟩ := List.mem_iff_getElem.1 hp
              exact HD.out t ht (by omega)
            obtain rfl : m = ps.length := by omega
            go_wp2_with fail
            go_ret
            exact ⟨by rw [HF.out]; rfl, HB1.out⟩
  · have g : decide ((200 : Int) < (s.size : Int)) = true := by simp; omega
    have HF : Hid (cleanL s.data.toList = false) := by
      unfold Hid cleanL
      rw [show decide (s.data.toList.length ≤ 200) = false by rw [hsl]; simpa using hs]; rfl
    go_enter Tryz.func39, Tryz.ntmps39
    go_wp2_with fail
    go_ret
    exact ⟨by rw [HF.out]; rfl, Below.refl _ _⟩
end Go.Proofs.YtjoomlpocpdonaaGreatDoor
namespace Go.Proofs.YtjoomlpocpdonaaGreatDoor
open Go.RowKit
set_option maxHeartbeats 1600000 in
theorem rbegins_any (f : FileB) (p : ByteArray) (w : World) :
    Calls Tryz.prog 35 #[.string f.1, .string p] w fun e w' => e = .returned (.bool (beginsF p f)) ∧ w' = w := by
  have HR : Hid ((decide (p.size ≤ f.1.size) && ((f.1.extract 0 p.size).toList == p.toList)) = beginsF p f) := Lib.hasPrefix_raw f.1 p
  generalize f.1 = X at *
  by_cases h : p.size ≤ X.size
  · have g : decide ((p.size : Int) ≤ (X.size : Int)) = true := by simp; omega
    have g2 : (p.size : Int) ≤ (X.size : Int) := by omega
    have HR2 : Hid (((X.extract 0 p.size).toList == p.toList) = beginsF p f) := by
      have := HR.out
      rwa [show decide (p.size ≤ X.size) = true by simpa using h, Bool.true_and] at this
    go_enter Tryz.func35, Tryz.ntmps35
    go_wp2_with fail
    go_ret
    exact ⟨by rw [← HR2.out]; rfl, rfl⟩
  · have g : decide ((p.size : Int) ≤ (X.size : Int)) = false := by simp; omega
    have HR2 : Hid (beginsF p f = false) := by
      have := HR.out
      rw [show decide (p.size ≤ X.size) = false by simpa using h, Bool.false_and] at this
      exact this.symm
    go_enter Tryz.func35, Tryz.ntmps35
    go_wp2_with fail
    go_ret
    exact ⟨by rw [HR2.out]; rfl, rfl⟩
end Go.Proofs.YtjoomlpocpdonaaGreatDoor
