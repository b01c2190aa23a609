/-
  Walks of semver: Sort: the texts of a list, in a row of the call's own, in their order.
-/
import Derived.Test.YtdbkmcjdkiljaaaDoorSamM
import Derived.Test.YtdbkmcjdkiljaaaDoorShelS
import Derived.Test.YtdbkmcjdkiljaaaDoorRefA
import Derived.Test.YtdbkmcjdkiljaaaDoorDrw
import Derived.Lib.QuietBelow
namespace Go.Proofs.YtdbkmcjdkiljaaaDoor
open Go.RowKit Go.Sort

/-- texts that a machine can hold -/
abbrev Txt : Type := { s : ByteArray // s.size ≤ 9223372036854775807 }
instance txtOne : Inhabited Txt := ⟨⟨⟨#[]⟩, by decide⟩⟩
def encT (x : Txt) : Value := .string x.1
noncomputable def cmpT (x y : Txt) : Int := sorC x.1 y.1
theorem ltOf_T (x y : Txt) : ltOf cmpT x y = decide (sorC x.1 y.1 < 0) := rfl
theorem swoT : SWO (ltOf cmpT) where
  irrefl x := by rw [ltOf_T, ord_sort.same]; rfl
  trans x y z h1 h2 := by
    rw [ltOf_T, decide_eq_true_eq] at *
    have h3 := ord_sort.trans x.1 y.1 z.1 (by omega) (by omega)
    have h4 := ord_sort.trans z.1 x.1 y.1
    have a1 := ord_sort.anti x.1 z.1
    have a2 := ord_sort.anti y.1 z.1
    have a3 := ord_sort.anti x.1 y.1
    omega
  ntrans x y z h1 h2 := by
    rw [ltOf_T, decide_eq_false_iff_not] at *
    have a1 := ord_sort.anti x.1 z.1
    have a2 := ord_sort.anti y.1 z.1
    have a3 := ord_sort.anti x.1 y.1
    have h3 := ord_sort.trans z.1 y.1 x.1
    omega
theorem grown_of {w w' : World} (hb : Below w.heap.size w w') (hd : w.drawn ≤ w'.drawn) : ∃ q os, w' = grow (w.drewN q) os := by
  obtain ⟨p, hp⟩ := regrown_of_below hb
  have e : w'.drawn = p.d := by rw [hp]; rfl
  refine ⟨p.d - w.drawn, p.os, ?_⟩
  rw [hp]
  have : w.drewN (p.d - w.drawn) = redrawn w p.d := by
    unfold redrawn World.drewN
    congr 1
    omega
  rw [this]
theorem cmpLaysT (blk off size : Nat) (w : World) : CmpLays1 Tryd.prog 43 #[] encT cmpT blk off size w := by
  intro m os dk _ x y
  generalize sortWorld encT w blk off m dk os = W
  refine (calls_drawn (sortCmp_any x.1 y.1 W x.2 y.2)).mono ?_
  rintro e w' ⟨he, hb, hd⟩
  exact ⟨he, grown_of hb hd⟩
def listT (l : List ByteArray) (h : ∀ x ∈ l, x.size ≤ 9223372036854775807) : List Txt := l.pmap Subtype.mk h
theorem listT_val (l : List ByteArray) (h : ∀ x ∈ l, x.size ≤ 9223372036854775807) : (listT l h).map Subtype.val = l := by
  unfold listT
  rw [List.map_pmap]
  simp
theorem listT_len (l : List ByteArray) (h : ∀ x ∈ l, x.size ≤ 9223372036854775807) : (listT l h).length = l.length := by
  unfold listT; simp
theorem sort_val (d : List Txt) : (d.mergeSort fun x y => !(ltOf cmpT) y x).map Subtype.val = sortL (d.map Subtype.val) := by
  unfold sortL
  rw [List.map_mergeSort]
  intro a _ b _
  rfl
theorem getT (d : Array Txt) (j : Nat) (h : j < (d.toList.map Subtype.val).length) (hj : j < d.size) : (d[j]!).1 = (d.toList.map Subtype.val)[j] := by
  rw [getElem!_pos d j hj]
  simp
/-- the texts of a list that stand in a row, one behind the other -/
def StrsO (w : World) (b off : Nat) (l : List ByteArray) : Prop := ∀ j (h : j < l.length), w.cell? ⟨b, off + j, none⟩ = some (.string l[j])
def SortPost (w0 : World) (l : List ByteArray) (e : Ending) (w : World) : Prop := ∃ g cap, e = .returned (.slice (some ⟨g, 0, none⟩) l.length cap) ∧ w0.heap.size ≤ g ∧ g < w.heap.size ∧ l.length ≤ cap ∧ StrsAt w g (sortL l)
set_option maxHeartbeats 1600000 in
set_option maxRecDepth 100000 in
theorem sort_any (b off c : Nat) (l : List ByteArray) (w : World) (hs : ∀ x ∈ l, x.size ≤ 9223372036854775807) (hl : l.length ≤ 1000) (hc : StrsO w b off l) :
    Calls Tryd.prog 21 #[.slice (some ⟨b, off, none⟩) l.length c] w fun e w' => SortPost w l e w' ∧ Below w.heap.size w w' := by
  obtain ⟨i0, hi, hz0, hz1, hz2⟩ := info_parts info9
  have HCL := hidM (Tryd.slices_Clone i0 (.string .empty) 1 16 hi hz0 hz1 hz2 rfl (by decide) Tryd.sizeOf9 b off l.length c (strsV l) w (by unfold strsV; simp) (by unfold maxLen; omega) (by omega)
    (fun j u hj => by
      unfold strsV at hj
      rw [List.getElem?_map] at hj
      cases hx : l[j]? with
      | none => rw [hx] at hj; cases hj
      | some x =>
        rw [hx] at hj
        obtain ⟨hjl, rfl⟩ := List.getElem?_eq_some_iff.1 hx
        cases hj
        exact hc j hjl)
    (fun u hu => by unfold strsV at hu; obtain ⟨x, _, rfl⟩ := List.mem_map.1 hu; rfl))
  have eg : ∀ args w, (callFunc 43 args).run Tryd.prog w = .ok (.enter 43 args) w := enters_of Tryd.func43 (by kernel_rfl) rfl
  have HSO : Hid (∀ (g cap : Nat) (V : World), g < V.heap.size → (∀ j (h : j < l.length), V.cell? ⟨g, 0 + j, none⟩ = some (.string l[j]) ∧ V.frozen? ⟨g, 0 + j, none⟩ = false) →
      Calls Tryd.prog 42 #[.slice (some ⟨g, 0, none⟩) l.length cap, .func (.func 43) #[] #[]] V fun e w' => e = .returned (.tuple #[]) ∧ StrsAt w' g (sortL l) ∧ Below g V w' ∧ V.heap.size ≤ w'.heap.size) := by
    intro g cap V hg hcell
    have hsz : (listT l hs).toArray.size = l.length := by rw [List.size_toArray, listT_len]
    have hval : ∀ (d : List Txt), d.map Subtype.val = l → ∀ j, (hj : j < l.length) → encT (d.toArray[j]!) = .string l[j] := fun d hd j hj => by
      have hjd : j < d.toArray.size := by rw [List.size_toArray, ← List.length_map (f := Subtype.val), hd]; exact hj
      have := getT d.toArray j (by simpa [hd] using hj) hjd
      unfold encT
      rw [this]
      simp [hd]
    have hH : Holds encT V g 0 (listT l hs).toArray := fun j hj => by
      rw [hsz] at hj
      rw [hval (listT l hs) (listT_val l hs) j hj]
      exact hcell j hj
    have h := Tryd.slices_SortFunc_total encT (fun _ => rfl) cmpT swoT 43 #[] g 0 cap (listT l hs).toArray V eg (cmpLaysT g 0 _ V) hH hg (by rw [hsz]; omega)
      (fun x y h1 h2 => by
        rw [ltOf_T, decide_eq_false_iff_not] at h1 h2
        have := ord_sort.anti x.1 y.1
        exact Subtype.ext (sorC_zero (by omega)))
    rw [hsz] at h
    refine h.mono ?_
    rintro e w' ⟨he, n, os, rfl⟩
    refine ⟨he, ?_, ?_, ?_⟩
    · have hS : SW encT V g 0 ((listT l hs).toArray.toList.mergeSort fun x y => !(ltOf cmpT) y x).toArray (sortWorld encT V g 0 n ((listT l hs).toArray.toList.mergeSort fun x y => !(ltOf cmpT) y x).toArray os) := ⟨n, os, rfl⟩
      have hh := hS.holds hg hH (by simp)
      intro j hj
      have hjl : j < ((listT l hs).toArray.toList.mergeSort fun x y => !(ltOf cmpT) y x).toArray.size := by
        rw [List.size_toArray, List.length_mergeSort]
        simp only [listT_len]
        rw [sortL_len] at hj; exact hj
      have h1 := (hh j hjl).1
      rw [Nat.zero_add] at h1
      rw [h1]
      have e1 : (((listT l hs).toArray.toList.mergeSort fun x y => !(ltOf cmpT) y x).toArray.toList.map Subtype.val) = sortL l := by
        show ((listT l hs).mergeSort fun x y => !(ltOf cmpT) y x).map Subtype.val = _
        rw [sort_val, listT_val]
      have h2 := getT ((listT l hs).toArray.toList.mergeSort fun x y => !(ltOf cmpT) y x).toArray j (by rw [e1]; exact hj) hjl
      unfold encT
      rw [h2]
      simp only [e1]
    · refine ⟨rfl, rfl, rfl, by simp [sortWorld, putRow, mapBlock, Sort.ahead], fun k hk => ?_⟩
      unfold sortWorld
      rw [heap_grow_old _ _ (by simp [putRow, mapBlock, Sort.ahead]; omega)]
      have : g ≠ k := fun e => by omega
      simp [putRow, mapBlock, Sort.ahead, Array.getElem?_modify, this]
    · simp [sortWorld, putRow, mapBlock, Sort.ahead]
  clear hc
  go_enter Tryd.func21, Tryd.ntmps21
  go_wp2_with fail
  refine HCL.out.mono ?_
  rintro _ w1 ⟨v, rfl, hown, hnn, hb1⟩
  rcases hown.2 with ⟨hnil, hn0⟩ | ⟨g, cap, cur, rfl, hbase, hbk, h1, h2, h3, h4⟩
  · exact absurd (by rw [hnil]) hnn
  · have hlt : g < w1.heap.size := (Array.getElem?_eq_some_iff.1 hbk).1
    have HSG := hidM (HSO.out g cap w1 hlt (fun j hj => ⟨by
        have := World.ownsRow.cellAt hown j (by omega)
        rw [Nat.zero_add, this]
        unfold strsV
        simp [hj], World.ownsRow.frozenAt hown _⟩))
    have HB1 := hidM hb1
    have HCP := hidM h1
    clear hown hb1 hbk h1 h2 h3 h4 hnn HCL HSO
    go_wp2_with fail
    refine HSG.out.mono ?_
    rintro _ w2 ⟨rfl, hst, hb2, hs2⟩
    have HST := hidM hst
    have HB2 : Hid (Below w.heap.size w w2) := HB1.out.trans (hb2.mono hbase)
    clear hst hb2
    go_wp2
    go_ret
    exact ⟨⟨g, cap, rfl, hbase, by omega, HCP.out, HST.out⟩, HB2.out⟩
end Go.Proofs.YtdbkmcjdkiljaaaDoor
