/-
  Sorting names and leaving out the double ones.
  Names, as the program has it.
-/
import Derived.Test.YtjoomlpocpdonaaGreatDoorJRfW
import Derived.Test.YtjoomlpocpdonaaGreatDoorShelS
import Derived.Lib.RowBridge
import Derived.Sort.KeysCollected
import Derived.Sort.OwnSorted
import Derived.Maps.RangeWalk
namespace Go.Proofs.YtjoomlpocpdonaaGreatDoor
open Go.RowKit Go.Sort

theorem le_cmp (x : List UInt8) : ∀ y, (x ≤ y) ↔ Lib.compareBytes x y ≤ 0 := by
  induction x with
  | nil =>
    intro y
    refine ⟨fun _ => ?_, fun _ => List.nil_le y⟩
    cases y with
    | nil => decide
    | cons b y => show (-1 : Int) ≤ 0; decide
  | cons a x ih =>
    intro y
    cases y with
    | nil =>
      refine ⟨fun h => ?_, fun h => absurd h (by show ¬ (1 : Int) ≤ 0; decide)⟩
      exact absurd h (by simp)
    | cons b y =>
      rw [List.cons_le_cons_iff, cmp_cons, ih]
      constructor
      · rintro (h | ⟨rfl, h⟩)
        · rw [if_pos (UInt8.lt_iff_toNat_lt.1 h)]; decide
        · rw [if_neg (Nat.lt_irrefl _), if_neg (Nat.lt_irrefl _)]; exact h
      · intro h
        by_cases h1 : a.toNat < b.toNat
        · exact .inl (UInt8.lt_iff_toNat_lt.2 h1)
        · rw [if_neg h1] at h
          by_cases h2 : b.toNat < a.toNat
          · rw [if_pos h2] at h; omega
          · rw [if_neg h2] at h
            exact .inr ⟨UInt8.toNat_inj.1 (by omega), h⟩
theorem compact_sorted (S : List (List UInt8)) (hs : S.Pairwise (fun a b => Lib.compareBytes a b ≤ 0)) :
    (Lib.compact S).Pairwise (fun a b => Lib.compareBytes a b < 0) ∧ ∀ z, z ∈ Lib.compact S ↔ z ∈ S := by
  have hd : ∀ i (h : i < S.length), S.toArray[i]! = S[i] := fun i h => by simp [h]
  have key : ∀ m, m ≤ S.length → (Lib.compactUpTo S.toArray m).Pairwise (fun a b => Lib.compareBytes a b < 0) ∧ ∀ z, z ∈ Lib.compactUpTo S.toArray m ↔ ∃ i, ∃ h : i < S.length, i < m ∧ S[i] = z := by
    intro m
    induction m with
    | zero =>
      intro _
      refine ⟨by simp [Lib.compactUpTo], fun z => ⟨fun h => by simp [Lib.compactUpTo] at h, fun ⟨i, _, h, _⟩ => by omega⟩⟩
    | succ m ih =>
      intro hm
      obtain ⟨h1, h2⟩ := ih (by omega)
      have hml : m < S.length := by omega
      rw [Lib.compactUpTo_succ]
      cases hk : Lib.keeps S.toArray m with
      | true =>
        rw [if_pos rfl, hd m hml]
        refine ⟨List.pairwise_append.2 ⟨h1, List.pairwise_singleton _ _, fun a ha b hb => ?_⟩, fun z => ?_⟩
        · obtain rfl := List.mem_singleton.1 hb
          obtain ⟨i, hi, him, rfl⟩ := (h2 a).1 ha
          have hk2 : m = 0 ∨ S.toArray[m]! ≠ S.toArray[m - 1]! := of_decide_eq_true hk
          have hne : S[m] ≠ S[m - 1] := by
            rcases hk2 with h | h
            · omega
            · rwa [hd m hml, hd (m - 1) (by omega)] at h
          have l1 : Lib.compareBytes S[m - 1] S[m] < 0 := by
            have h3 := List.pairwise_iff_getElem.1 hs (m - 1) m (by omega) hml (by omega)
            have h4 : Lib.compareBytes S[m - 1] S[m] ≠ 0 := fun e => hne ((cmp_zero _ _).1 e).symm
            omega
          by_cases him2 : i = m - 1
          · subst him2; exact l1
          · exact cmp_lt_of_le_of_lt (List.pairwise_iff_getElem.1 hs i (m - 1) hi (by omega) (by omega)) l1
        · rw [List.mem_append, h2, List.mem_singleton]
          constructor
          · rintro (⟨i, hi, him, rfl⟩ | rfl)
            · exact ⟨i, hi, by omega, rfl⟩
            · exact ⟨m, hml, by omega, rfl⟩
          · rintro ⟨i, hi, him, rfl⟩
            by_cases h : i = m
            · subst h; exact .inr rfl
            · exact .inl ⟨i, hi, by omega, rfl⟩
      | false =>
        rw [if_neg (by decide), List.append_nil]
        have hk2 : ¬ (m = 0 ∨ S.toArray[m]! ≠ S.toArray[m - 1]!) := of_decide_eq_false hk
        rw [not_or, Classical.not_not] at hk2
        rw [hd m hml, hd (m - 1) (by omega)] at hk2
        refine ⟨h1, fun z => ?_⟩
        rw [h2]
        constructor
        · rintro ⟨i, hi, him, rfl⟩; exact ⟨i, hi, by omega, rfl⟩
        · rintro ⟨i, hi, him, rfl⟩
          by_cases h : i = m
          · subst h; exact ⟨i - 1, by omega, by omega, hk2.2.symm⟩
          · exact ⟨i, hi, by omega, rfl⟩
  obtain ⟨h1, h2⟩ := key S.length (Nat.le_refl _)
  refine ⟨h1, fun z => ?_⟩
  show z ∈ Lib.compactUpTo S.toArray S.length ↔ _
  rw [h2, List.mem_iff_getElem]
  exact ⟨fun ⟨i, hi, _, h⟩ => ⟨i, hi, h⟩, fun ⟨i, hi, h⟩ => ⟨i, hi, hi, h⟩⟩
theorem sorted_cmp (T : List (List UInt8)) : (T.mergeSort fun x y => decide (x ≤ y)).Pairwise (fun a b => Lib.compareBytes a b ≤ 0) := by
  have tr : ∀ a b c : List UInt8, decide (a ≤ b) = true → decide (b ≤ c) = true → decide (a ≤ c) = true := fun a b c h1 h2 => by simp only [decide_eq_true_eq] at *; exact List.le_trans h1 h2
  have to : ∀ a b : List UInt8, (decide (a ≤ b) || decide (b ≤ a)) = true := fun a b => by simp only [Bool.or_eq_true, decide_eq_true_eq]; exact List.le_total a b
  exact (List.pairwise_mergeSort tr to T).imp fun h => (le_cmp _ _).1 (of_decide_eq_true h)
/-- texts in a row of the call's own -/
def OwnT (w : World) (B : Nat) (v : Value) (T : List (List UInt8)) : Prop := w.ownsRow B 9 1 v T.length (T.map encStr)
theorem OwnT.shape {w : World} {B : Nat} {v : Value} {T : List (List UInt8)} (h : OwnT w B v T) : (T = [] ∧ ∃ a c, v = .slice a 0 c) ∨ (T ≠ [] ∧ ∃ g cap cur, v = .slice (some ⟨g, 0, none⟩) T.length cap ∧ B ≤ g ∧ g < w.heap.size ∧ w.heap[g]? = some (.cells cur 9 (0, 0)) ∧ T.length ≤ cap ∧ cap ≤ maxLen ∧ cur.size = cap * 1 ∧ cur.toList.take T.length = T.map encStr) := by
  rcases h.2 with ⟨hnil, hn⟩ | ⟨g, cap, cur, rfl, hbase, hbk, h1, h2, h3, h4⟩
  · exact .inl ⟨List.eq_nil_of_length_eq_zero hn, none, 0, hnil⟩
  · by_cases ht : T = []
    · subst ht; exact .inl ⟨rfl, _,_, rfl⟩
    · exact .inr ⟨ht, g, cap, cur, rfl, hbase, (Array.getElem?_eq_some_iff.1 hbk).1, hbk, h1, h2, h3, by simpa using h4⟩
theorem sort_names (v : Value) (T : List (List UInt8)) (B : Nat) (w : World) (h : OwnT w B v T) (hl : T.length ≤ 1000000) (hB : B ≤ w.heap.size) :
    Calls Tryz.prog 44 #[v] w fun e w' => e = .returned (.tuple #[]) ∧ OwnT w' B v (T.mergeSort fun x y => decide (x ≤ y)) ∧ Below B w w' := by
  rcases h.shape with ⟨rfl, a, c, rfl⟩ | ⟨hne, g, cap, cur, rfl, hbase, hgl, hb, h1, h2, h3, h4⟩
  · refine (Tryz.slices_Sort_string_none a c w).mono fun e w' ⟨he, hw⟩ => ?_
    subst hw
    exact ⟨he, by rw [List.mergeSort_nil]; exact h, Below.refl _ _⟩
  · refine (Tryz.slices_Sort_string g 0 cap T w (holds_of_block hb h4) hgl (by omega)).mono fun e w' ⟨he, n, os, hw⟩ => ?_
    subst hw
    refine ⟨he, ?_, (Below.refl _ _).grown (grownBy_sorted _) hB (fun j hj => by cases hj; exact hbase)⟩
    have := ownsRow_sorted (n := n) (os := os) (ss := T) (ts := T.mergeSort fun x y => decide (x ≤ y)) (by simp) hbase hb h1 h2 h3
    unfold OwnT
    rw [List.length_mergeSort]; exact this
theorem compact_names (v : Value) (S : List (List UInt8)) (B : Nat) (w : World) (h : OwnT w B v S) (hl : S.length ≤ 1000000) (hB : B ≤ w.heap.size) :
    Calls Tryz.prog 45 #[v] w fun e w' => (∃ v', e = .returned v' ∧ StrsV w' v' ((Lib.compact S).map mkB)) ∧ Below B w w' := by
  rcases h.shape with ⟨rfl, a, c, rfl⟩ | ⟨hne, g, cap, cur, rfl, hbase, hgl, hb, h1, h2, h3, h4⟩
  · refine (Tryz.slices_Compact_string_empty a c w).mono fun e w' ⟨he, hw⟩ => ?_
    subst hw
    exact ⟨⟨_, he, a, c, rfl, fun hh => absurd rfl hh⟩, Below.refl _ _⟩
  · refine (Tryz.slices_Compact_string g 0 cap S w (holds_of_block hb h4) (by omega) (by omega)).mono fun e w' ⟨he, q, hw⟩ => ?_
    have hle := Lib.compact_length_le S
    generalize hC : Lib.compact S = C at *
    have hlen : (C ++ List.replicate (S.length - C.length) []).length = S.length := by simp; omega
    have hw2 : w' = grow (putRow encStr (Sort.ahead w q) g 0 (C ++ List.replicate (S.length - C.length) []).toArray) #[] := by rw [hw, grow_empty]
    have hown := ownsRow_sorted (n := q) (os := #[]) (ss := S) (ts := C ++ List.replicate (S.length - C.length) []) hlen hbase hb h1 h2 h3
    have hgr := grownBy_sorted (w := w) (g := g) (n := q) (os := #[]) (C ++ List.replicate (S.length - C.length) []).toArray
    rw [← hw2] at hown hgr
    refine ⟨⟨_, he, some ⟨g, 0, none⟩, cap, by rw [List.length_map], fun _ => ⟨g, rfl, Nat.lt_of_lt_of_le hgl hgr.size, fun j hj => ?_⟩⟩, (Below.refl _ _).grown hgr hB (fun j hj => by cases hj; exact hbase)⟩
    have hj2 : j < C.length := by simpa using hj
    have := World.ownsRow.cells hown (g := g) rfl j (encStr C[j]) (by rw [List.getElem?_map, List.getElem?_append_left hj2]; simp [hj2])
    rw [Addr.add_lit, Nat.zero_add] at this
    rw [this, List.getElem_map]; rfl
end Go.Proofs.YtjoomlpocpdonaaGreatDoor
namespace Go.Proofs.YtjoomlpocpdonaaGreatDoor
open Go.RowKit Go.Maps

def selN (front p : List UInt8) : Bool := nameL p && Lib.hasPrefix p front
def NameIn (gs : List FileB) (rows : List RowR) (front : List UInt8) (z : ByteArray) : Prop :=
  ((∃ f ∈ gs, f.1 = z ∧ Lib.hasPrefix z.data.toList folderL = true ∧ nameL z.data.toList = true) ∨ ∃ r ∈ rows, mkB r.name = z) ∧ Lib.hasPrefix z.data.toList front = true
def NamesRet (gs : List FileB) (rows : List RowR) (front : List UInt8) (e : Ending) (w : World) : Prop :=
  ∃ v l, e = .returned v ∧ StrsV w v l ∧ l.length ≤ 4000 ∧ RiseB l ∧ ∀ z, z ∈ l ↔ NameIn gs rows front z
theorem OwnT.push {w : World} {B : Nat} {v : Value} {T : List (List UInt8)} {x : List UInt8} (h : w.ownsRow B 9 1 v (T.length + 1) (T.map encStr ++ [encStr x])) : OwnT w B v (T ++ [x]) := by
  unfold OwnT
  rw [List.map_append, List.length_append]
  exact h
def firstN (us : List ByteArray) (front : List UInt8) (k : Nat) : List (List UInt8) := ((us.take k).map fun u => u.data.toList).filter (selN front)
theorem firstN_next (us : List ByteArray) (front : List UInt8) (k : Nat) (h : k < us.length) : firstN us front (k + 1) = firstN us front k ++ (if selN front us[k].data.toList = true then [us[k].data.toList] else []) := by
  unfold firstN
  rw [List.take_succ_eq_append_getElem h, List.map_append, List.filter_append]
  congr 1
  cases hs : selN front us[k].data.toList <;> simp [hs]
theorem firstN_len (us : List ByteArray) (front : List UInt8) (k : Nat) : (firstN us front k).length ≤ k := by
  unfold firstN
  refine Nat.le_trans (List.length_filter_le _ _) ?_
  rw [List.length_map, List.length_take]; omega
theorem below_none {w w' : World} (h : Below w.heap.size w w') : w.grownBy w' none := ⟨h.os, h.tape, h.output, h.size, fun k hk _ => h.block k hk⟩
theorem OwnT.below {w w' : World} {B : Nat} {v : Value} {T : List (List UInt8)} (h : OwnT w B v T) (hb : Below w.heap.size w w') : OwnT w' B v T := h.kept (below_none hb) (by
  cases hv : v.ownBlock with
  | none => exact .inl rfl
  | some x => exact .inr (by simp))
theorem owns_keep {w w' : World} {b n B : Nat} {D : DataW Unit} (h : w.ownsMap Tryz.prog 9 tgtElem b n D) (hb : Below B w w') (hB : b < B) : w'.ownsMap Tryz.prog 9 tgtElem b n D := by
  obtain ⟨es, clock, h1, F, hs, hD⟩ := h
  exact ⟨es, clock, (hb.block b hB).trans h1, F, hs, hD⟩
def tgtM (c : ByteArray × ByteArray) : Value := .agg #[.string c.1, .string c.2]
theorem names_mem {gs : List FileB} {rows : List RowR} {front : List UInt8} {D : DataW Unit} {left : Lit → Bool} {ks : List (List UInt8)} (hm : MapOf D rows) (hC : Collected D left ks) (hl : ∀ kl, left kl = false) (z : List UInt8) :
    z ∈ firstN (pathsL (undF gs ⟨#[114, 101, 102, 115, 47]⟩)) front (pathsL (undF gs ⟨#[114, 101, 102, 115, 47]⟩)).length ++ ks.filter (fun x => Lib.hasPrefix x front) ↔ NameIn gs rows front (mkB z) := by
  unfold NameIn firstN
  rw [List.take_length, List.mem_append, List.mem_filter, List.mem_filter, hC.2 z, hl, hm.has z, mkB_list]
  unfold selN pathsL undF
  simp only [List.map_map, List.mem_map, List.mem_filter, Bool.and_eq_true, Function.comp]
  constructor
  · rintro (⟨⟨f, ⟨hf, hb⟩, rfl⟩, hn, hp⟩ | ⟨⟨ha, _⟩, hp⟩)
    · exact ⟨.inl ⟨f, hf, (mkB_of f.1).symm, hb, hn⟩, hp⟩
    · refine ⟨.inr ?_, hp⟩
      obtain ⟨r, hr, he⟩ := List.any_eq_true.1 ha
      exact ⟨r, hr, by rw [show r.name = z by simpa using he]⟩
  · rintro ⟨⟨f, hf, he, hb, hn⟩ | ⟨r, hr, he⟩, hp⟩
    · have he2 : f.1.data.toList = z := by rw [he, mkB_list]
      exact .inl ⟨⟨f, ⟨hf, by unfold beginsF; rw [he2]; exact hb⟩, he2⟩, hn, hp⟩
    · have he2 : r.name = z := by have := congrArg (fun x : ByteArray => x.data.toList) he; simpa [mkB_list] using this
      exact .inr ⟨⟨List.any_eq_true.2 ⟨r, hr, by simpa using he2⟩, trivial⟩, hp⟩
theorem names_rise {T : List (List UInt8)} : RiseB ((Lib.compact (T.mergeSort fun x y => decide (x ≤ y))).map mkB) ∧ ∀ z, z ∈ (Lib.compact (T.mergeSort fun x y => decide (x ≤ y))).map mkB ↔ z.data.toList ∈ T := by
  obtain ⟨h1, h2⟩ := compact_sorted _ (sorted_cmp T)
  refine ⟨?_, fun z => ?_⟩
  · unfold RiseB cmpB
    rw [List.pairwise_map]
    exact h1.imp fun h => by rw [mkB_list, mkB_list]; exact h
  · rw [List.mem_map]
    constructor
    · rintro ⟨x, hx, rfl⟩
      rw [mkB_list]
      exact List.mem_mergeSort.1 ((h2 x).1 hx)
    · intro hz
      exact ⟨z.data.toList, (h2 _).2 (List.mem_mergeSort.2 hz), mkB_of z⟩
set_option maxRecDepth 100000 in
set_option maxHeartbeats 3200000 in
theorem names_any (r b off c mb : Nat) (gs : List FileB) (rows : List RowR) (front : ByteArray) (m : Int) (w : World) (h : RefsAt w r b off c mb gs rows) (hg : GOk m w) :
    Calls Tryz.prog 14 #[.pointer (some ⟨r, 0, none⟩), .string front] w fun e w' => NamesRet gs rows front.data.toList e w' ∧ Below w.heap.size w w' := by
  have HR := hidM h
  have HG := hidM hg
  have HU := hidM (Under_any r b off c gs ⟨#[114, 101, 102, 115, 47]⟩ w h.fol (by have := h.len; omega) h.rise.rise)
  have HUL : Hid ((pathsL (undF gs ⟨#[114, 101, 102, 115, 47]⟩)).length ≤ 2000) := by
    have h1 : (undF gs ⟨#[114, 101, 102, 115, 47]⟩).length ≤ gs.length := List.length_filter_le _ _
    have h2 := h.len
    unfold Hid pathsL
    rw [List.length_map]; omega
  obtain ⟨D, hD, hMO⟩ := h.map
  have HMEM := hidM (fun left ks (hC : Collected D left ks) hl z => names_mem (gs := gs) (front := front.data.toList) hMO hC hl z)
  have HRL := hidM h.ok.len
  have hmbl := h.map.lt
  have HD := hidM hD
  clear hD hMO h hg
  generalize pathsL (undF gs ⟨#[114, 101, 102, 115, 47]⟩) = us at *
  obtain ⟨i0, hi, hz0, hz1, hz2⟩ := info_parts info9
  go_enter Tryz.func14, Tryz.ntmps14
  go_wp2_with fail
  refine HU.out.mono ?_
  rintro _ w1 ⟨⟨v1, hv1, rfl⟩, hb1⟩
  have HB1 := hidM hb1
  obtain ⟨a, cp, hvv, hst⟩ := hv1.strs
  subst hvv
  have HST : Hid (∀ j (h : j < us.length), ∃ g, a = some ⟨g, 0, none⟩ ∧ g < w1.heap.size ∧ w1.cell? ⟨g, j, none⟩ = some (.string us[j])) := fun j h => by
    obtain ⟨g, h1, h2, h3⟩ := hst (fun hh => by rw [hh] at h; simp at h)
    exact ⟨g, h1, h2, h3 j h⟩
  have hul := HUL.out
  clear hb1 hv1 hst HU
  go_wp2_with fail
  go_loopw [5, 7, 14] (fun v _ i wr => ∃ (k : Nat), k ≤ us.length ∧ i = .int .i64 k ∧ OwnT wr w1.heap.size v (firstN us front.data.toList k) ∧ Below w1.heap.size w1 wr) (fun _ _ i _ => us.length - (intOf i).toNat)
  case atStart => exact ⟨0, Nat.zero_le _, rfl, World.ownsRow_nil _ _ _ _, Below.refl _ _⟩
  case round =>
    obtain ⟨k, hk, rfl, hown, hbr⟩ := hrel
    have HO := hidM hown
    have HB := hidM hbr
    clear hown hbr
    by_cases hlt : k < us.length
    · have kk : (k : Int) < (us.length : Int) := by omega
      obtain ⟨g, rfl, hgl, y0⟩ := HST.out k hlt
      have y0 : wr.cell? ⟨g, k, none⟩ = some (.string us[k]) := (HB.out.cell (p := ⟨g, k, none⟩) hgl).trans y0
      have HBW := hidM (HB1.out.trans (HB.out.mono HB1.out.size))
      have HNM := hidM (name_any us[k] m wr (HG.out.below HBW.out))
      have HFX := hidM (firstN_next us front.data.toList k hlt)
      have HFL := hidM (firstN_len us front.data.toList k)
      have HEN : Hid (encStr us[k].data.toList = .string us[k]) := by show Value.string (mkB us[k].data.toList) = _; rw [mkB_of]
      unfold selN at HFX
      have HPX := hidM (fun W => Tryz.strings_HasPrefix us[k] front W)
      generalize firstN us front.data.toList k = FK at *
      generalize nameL us[k].data.toList = A at *
      generalize Lib.hasPrefix us[k].data.toList front.data.toList = Bq at *
      generalize us[k].data.toList = XL at *
      generalize us[k] = X at *
      cases A with
      | false =>
        have HFX2 : Hid (firstN us front.data.toList (k + 1) = FK) := by unfold Hid; rw [HFX.out, if_neg (by simp), List.append_nil]
        clear HFX
        go_wp2_with fail
        refine HNM.out.mono ?_
        rintro _ w2 ⟨rfl, hb2⟩
        have HO2 := hidM (HO.out.below hb2)
        have HB2 := hidM (HB.out.trans (hb2.mono HB.out.size))
        clear hb2
        go_wp2_with fail
        go_roundw
        case rel => exact ⟨k + 1, by omega, by go_num, by rw [HFX2.out]; exact HO2.out, HB2.out⟩
        case measure => (show us.length - ((k : Int) + 1).toNat < us.length - ((k : Int)).toNat); omega
      | true =>
      cases Bq with
      | false =>
        have HFX2 : Hid (firstN us front.data.toList (k + 1) = FK) := by unfold Hid; rw [HFX.out, if_neg (by simp), List.append_nil]
        clear HFX
        go_wp2_with fail
        refine HNM.out.mono ?_
        rintro _ w2 ⟨rfl, hb2⟩
        have HO2 := hidM (HO.out.below hb2)
        have HB2 := hidM (HB.out.trans (hb2.mono HB.out.size))
        clear hb2
        go_wp2_with fail
        refine (HPX.out _).mono ?_
        rintro _ w3 ⟨rfl, rfl⟩
        go_wp2_with fail
        go_roundw
        case rel => exact ⟨k + 1, by omega, by go_num, by rw [HFX2.out]; exact HO2.out, HB2.out⟩
        case measure => (show us.length - ((k : Int) + 1).toNat < us.length - ((k : Int)).toNat); omega
      | true =>
        have HFX2 : Hid (firstN us front.data.toList (k + 1) = FK ++ [XL]) := by unfold Hid; rw [HFX.out, if_pos (by simp)]
        clear HFX
        go_wp2_with fail
        refine HNM.out.mono ?_
        rintro _ w2 ⟨rfl, hb2⟩
        have HO2 := hidM (HO.out.below hb2)
        have HB2 := hidM (HB.out.trans (hb2.mono HB.out.size))
        have hsz2 := HB2.out.size
        clear hb2
        go_wp2_with fail
        refine (HPX.out _).mono ?_
        rintro _ w3 ⟨rfl, rfl⟩
        go_wp2_with (first
          | (at_builtin; refine wpList_append_own _ rfl _ _ 37 rfl w1.heap.size 9 i0 (.string .empty) 1 16 Tryz.underlying37 hi hz0 hz1 hz2 rfl (by decide) _ _ _ rfl (World.ownsRow.alloc HO2.out _) ⟨w3.heap.size, 0, none⟩ 1 1 [.string X] ?p0 rfl ?p1 ?p2 ?p3 ?p4 ?p5 ?_))
        case p0 => rfl
        case p1 => exact cell_new_at _ _ _ _ rfl
        case p2 => intro u hu; simp at hu; subst hu; rfl
        case p3 => have := HFL.out; unfold maxLen; omega
        case p4 => have := HFL.out; omega
        case p5 => simp; omega
        intro v' w4 hown' hgrow _
        rw [← HEN.out] at hown'
        have HO4 := hidM (OwnT.push hown')
        have HB4 : Hid (Below w1.heap.size w1 w4) := (HB2.out.alloc hsz2 _).grown hgrow (by simp; omega) (fun j hj => (World.ownsRow.lt HO2.out j hj).1)
        clear hown' hgrow
        go_wp2_with fail
        go_roundw
        case rel => exact ⟨k + 1, by omega, by go_num, by rw [HFX2.out]; exact HO4.out, HB4.out⟩
        case measure => (show us.length - ((k : Int) + 1).toNat < us.length - ((k : Int)).toNat); omega
    · obtain rfl : k = us.length := by omega
      have HRB := hidM (HB1.out.trans (HB.out.mono HB1.out.size))
      have c1 := (HR.out.below HRB.out).c1
      obtain ⟨A, hA⟩ : ∃ A, firstN us front.data.toList us.length = A := ⟨_, rfl⟩
      rw [hA] at HO HMEM
      have HAL : Hid (A.length ≤ 2000) := by rw [← hA]; exact Nat.le_trans (firstN_len _ _ _) hul
      clear hA HST HUL
      have HDW := hidM (owns_keep HD.out HRB.out hmbl)
      have HOO := hidM HO.out
      have hrl := HRL.out
      generalize hRN : rows.length = RN at *
      clear hRN
      obtain ⟨R, hR⟩ : ∃ R, R = wr.heap.size := ⟨_, rfl⟩
      have hwR : w1.heap.size ≤ R := by rw [hR]; exact HB.out.size
      go_wp2_with (first
        | (at_range; refine wpList_range_own _ rfl _ 58 rfl 9 76 key9 Tryz.underlying58 tgtElem mb RN D rfl HDW.out ?_; intro w0 hrg0 hg0 hs0))
      go_frame
      rw [← hR] at hrg0 ⊢
      have HO0 : Hid (OwnT w0 w1.heap.size u5 A) := (World.ownsRow.kept HOO.out hg0 (by
        cases hv : u5.ownBlock with
        | none => exact .inl rfl
        | some x => exact .inr (by simp)))
      have HB0 : Hid (Below w1.heap.size w1 w0) := HB.out.grown hg0 HB.out.size (fun j hj => by cases hj)
      have HRG0 := hidM hrg0
      have HSZ : Hid (Maps.size D ≤ RN) := HDW.out.size_le
      have hmb1 : mb < w1.heap.size := Nat.lt_of_lt_of_le hmbl HB1.out.size
      clear hrg0 hg0 hs0 HO HOO HDW HRB c1 HB HR hR
      go_loopw [5, 8] (fun v _ wx => ∃ (left : Lit → Bool) (cnt : Nat) (ks : List (List UInt8)), wx.ranges Tryz.prog 9 tgtElem mb R RN D left cnt ∧ ks.length + cnt ≤ RN ∧ OwnT wx w1.heap.size v (A ++ ks.filter fun x => Lib.hasPrefix x front.data.toList) ∧ Collected D left ks ∧ Below w1.heap.size w1 wx) (fun _ _ wx => wx.rangeLeft mb R)
      case atStart => exact ⟨_,_, [], HRG0.out, by have := HSZ.out; simpa using this, by simpa using HO0.out, Collected.start D, HB0.out⟩
      case round =>
        obtain ⟨left, cnt, ks, hrg, hcs, hown, hC, hbx⟩ := hrel
        have HRG := hidM hrg
        have HOX := hidM hown
        have HC := hidM hC
        have HBX := hidM hbx
        clear hown hC hbx HRG0 HO0 HB0 HSZ
        go_wp2_with (first
          | (at_next; refine wpList_next_ranges _ rfl _ rfl 9 key9 tgtElem encStr tgtM (fun key kl hk => by obtain ⟨x, hx, _⟩ := Maps.keyOf_str Tryz.underlying9 hk; exact ⟨x, hx⟩) (fun v y hv => by obtain ⟨a, b, h1, _⟩ := tgt_inv hv; exact ⟨(a, b), h1⟩) mb R RN _ _ _ rfl hrg ?_ ?_))
        · intro hc0 hl0
          have HME := hidM (HMEM.out left ks HC.out hl0)
          have hln : (A ++ ks.filter fun x => Lib.hasPrefix x front.data.toList).length ≤ 4000 := by
            have h1 := List.length_filter_le (fun x => Lib.hasPrefix x front.data.toList) ks
            have h2 := HAL.out
            rw [List.length_append]; omega
          generalize (A ++ ks.filter fun x => Lib.hasPrefix x front.data.toList) = T at *
          have HRI := hidM (names_rise (T := T))
          have HBB := hidM (HB1.out.trans (HBX.out.mono HB1.out.size))
          have HST := hidM (sort_names _ T w1.heap.size _ HOX.out (by omega) HBX.out.size)
          have hsl : (T.mergeSort fun x y => decide (x ≤ y)).length ≤ 4000 := by rw [List.length_mergeSort]; exact hln
          clear hrg hc0 hl0 HC HMEM HOX hln
          generalize (T.mergeSort fun x y => decide (x ≤ y)) = S at *
          go_wp2_with fail
          refine HST.out.mono ?_
          rintro _ w3 ⟨rfl, ho3, hb3⟩
          have HO3 := hidM ho3
          have HB3 := hidM (HBX.out.trans hb3)
          clear ho3 hb3 HST
          go_wp2_with fail
          refine (compact_names _ S w1.heap.size _ HO3.out (by omega) HB3.out.size).mono ?_
          rintro _ w4 ⟨⟨v', rfl, hv'⟩, hb4⟩
          have HV := hidM hv'
          have HB4 := hidM (HB1.out.trans ((HB3.out.trans hb4).mono HB1.out.size))
          clear hv' hb4
          go_wp2_with fail
          go_ret
          exact ⟨⟨_,_, rfl, HV.out, by rw [List.length_map]; exact Nat.le_trans (Lib.compact_length_le S) hsl, HRI.out.1, fun z => by rw [HRI.out.2 z, HME.out z.data.toList, mkB_of]⟩, HB4.out⟩
        · intro x ca cb kl yd yp w2 cnt2 hkey hlk hv hat hrg2 hlt hg2 hs2 hen
          obtain ⟨x', ex, rfl, _⟩ := Maps.keyOf_str Tryz.underlying9 hkey
          obtain rfl : x = x' := encStr_inj ex
          have HO2 : Hid (OwnT w2 w1.heap.size u5 (A ++ ks.filter fun x => Lib.hasPrefix x front.data.toList)) := (World.ownsRow.kept HOX.out hg2 (Or.inr (row_ne_iter HOX.out hrg).symm))
          have HB2 : Hid (Below w1.heap.size w1 w2) := HBX.out.grown hg2 HBX.out.size (fun j hj => by cases hj; exact hwR)
          have HPX := hidM (Tryz.strings_HasPrefix (mkB x) front w2)
          rw [mkB_list] at HPX
          have HCS := hidM (HC.out.step hlk hat)
          have hsz2 := HB2.out.size
          have HRG2 := hidM hrg2
          have hlt2 := hlt
          have hkl : (ks.filter fun x => Lib.hasPrefix x front.data.toList).length ≤ ks.length := List.length_filter_le _ _
          have hen2 : (Instr.entry (.pointer (some ⟨R, 0, none⟩))).run Tryz.prog w2 = .ok (.tuple #[.string (mkB x), tgtM (ca, cb)]) w2 := hen
          have HFA : Hid (∀ b, Lib.hasPrefix x front.data.toList = b → (ks ++ [x]).filter (fun x => Lib.hasPrefix x front.data.toList) = ks.filter (fun x => Lib.hasPrefix x front.data.toList) ++ if b = true then [x] else []) := fun b hb => by
            rw [List.filter_append]
            congr 1
            rw [List.filter_cons, hb]; rfl
          clear hs2 hkey hlk hv hat hg2 hen hrg2 HC ex
          rw [show encStr x = .string (mkB x) from rfl]
          cases hq : Lib.hasPrefix x front.data.toList with
          | false =>
            rw [hq] at HPX
            have HF2 := hidM (HFA.out false hq)
            go_wp2_with fail
            refine HPX.out.mono ?_
            rintro _ w3 ⟨rfl, rfl⟩
            go_wp2_with fail
            go_roundw
            case rel => exact ⟨_, cnt2, ks ++ [x], HRG2.out, by simp; omega, by rw [HF2.out, if_neg Bool.false_ne_true, List.append_nil]; exact HO2.out, HCS.out, HB2.out⟩
            case measure => rw [HRG2.out.left_eq, HRG.out.left_eq]; exact hlt2
          | true =>
            rw [hq] at HPX
            have HF2 : Hid (A ++ (ks ++ [x]).filter (fun x => Lib.hasPrefix x front.data.toList) = (A ++ ks.filter (fun x => Lib.hasPrefix x front.data.toList)) ++ [x]) := by
              unfold Hid
              rw [HFA.out true hq, if_pos rfl, List.append_assoc]
            have hln : (A ++ ks.filter fun x => Lib.hasPrefix x front.data.toList).length ≤ 4000 := by
              have h2 := HAL.out
              rw [List.length_append]; omega
            have HMB : Hid (encStr x = .string (mkB x)) := rfl
            have HR3 := hidM (row_ne_iter HO2.out HRG2.out)
            have HR4 := hidM (row_ne_low HO2.out hmb1)
            generalize (A ++ ks.filter fun x => Lib.hasPrefix x front.data.toList) = T at *
            generalize hMX : mkB x = MX at *
            go_wp2_with fail
            refine HPX.out.mono ?_
            rintro _ w3 ⟨rfl, rfl⟩
            go_wp2_with (first
              | (at_builtin; refine wpList_append_own _ rfl _ _ 37 rfl w1.heap.size 9 i0 (.string .empty) 1 16 Tryz.underlying37 hi hz0 hz1 hz2 rfl (by decide) _ _ _ rfl (World.ownsRow.alloc HO2.out _) ⟨w3.heap.size, 0, none⟩ 1 1 [.string MX] ?r0 rfl ?r1 ?r2 ?r3 ?r4 ?r5 ?_))
            case r0 => rfl
            case r1 => exact cell_new_at _ _ _ _ rfl
            case r2 => intro u hu; simp at hu; subst hu; rfl
            case r3 => unfold maxLen; omega
            case r4 => omega
            case r5 => simp; omega
            intro v' w4 hown' hgrow _
            rw [← HMB.out] at hown'
            have HO4 := hidM (OwnT.push hown')
            have HB4 : Hid (Below w1.heap.size w1 w4) := (HB2.out.alloc hsz2 _).grown hgrow (by simp; omega) (fun j hj => (World.ownsRow.lt HO2.out j hj).1)
            have HRG4 := hidM ((HRG2.out.alloc _).kept hgrow HR4.out HR3.out)
            clear hown' hgrow
            go_wp2_with fail
            go_roundw
            case rel => exact ⟨_, cnt2, ks ++ [x], HRG4.out, by simp; omega, by rw [HF2.out]; exact HO4.out, HCS.out, HB4.out⟩
            case measure => rw [HRG4.out.left_eq, HRG.out.left_eq]; exact hlt2
end Go.Proofs.YtjoomlpocpdonaaGreatDoor
