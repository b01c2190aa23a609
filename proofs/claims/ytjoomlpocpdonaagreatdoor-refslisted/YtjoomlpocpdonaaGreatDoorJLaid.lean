/-
  Walks of the law's own: Few of a text, Short.
  What the law of the listed names asks of looking up.
  RefsListed, the law's walk.
  The way to the card where the road reads a variable that no laid table ties: the world that the card hands on is of its shape, and this says what the variable holds.
  A slice of files that was handed in, opened.
  A heap into which the listed tables are laid meets the rows' condition.
-/
import Derived.Test.YtjoomlpocpdonaaGreatDoorJRfNb
import Derived.Test.YtjoomlpocpdonaaGreatDoorJRfW
import Derived.Handed
import Derived.SizedLaws
import Derived.ChangeOld
import Derived.ShutString
import Derived.Shelf.Vars
import Derived.Test.YtjoomlpocpdonaaGreatDoorJSnapL
import Derived.Deep.SlicePairs
import Derived.Test.YtjoomlpocpdonaaGreatDoorRows
import Derived.ProofKit
import Derived.Lay
import Derived.LaidMore
import Derived.OpenShut
import Derived.Stop.Joined
import Derived.Stop.LaidErr
import Derived.Lib.LaidTab
namespace Go.Proofs.YtjoomlpocpdonaaGreatDoor
open Go.RowKit Go.Sort

def fewS (s : ByteArray) : ByteArray := if 3000 < s.size then s.extract 0 3000 else s
theorem fewS_size (s : ByteArray) : (fewS s).size ≤ 3000 := by
  unfold fewS
  split
  · rw [ByteArray.size_extract]; omega
  · omega
set_option maxRecDepth 100000 in
theorem fewL_any (s : ByteArray) (w : World) : Calls Tryz.prog 22 #[.string s, .int .i64 3000] w fun e w' => e = .returned (.string (fewS s)) ∧ w' = w := by
  unfold fewS
  by_cases h : 3000 < s.size
  · rw [if_pos h]
    have g1 : (3000 : Int) < (s.size : Int) := by omega
    have g2 : (3000 : Int) ≤ (s.size : Int) := by omega
    go_enter Tryz.func22, Tryz.ntmps22
    go_wp2
    go_ret
    exact ⟨rfl, rfl⟩
  · rw [if_neg h]
    have g1 : ¬ (3000 : Int) < (s.size : Int) := by omega
    go_enter Tryz.func22, Tryz.ntmps22
    go_wp2
    go_ret
    exact ⟨rfl, rfl⟩
def cutF (f : FileB) : FileB := (f.1, fewS f.2)
/-- files in a row of the call's own, into which it may store -/
def FilesW (V : World) (g : Nat) (fs : List FileB) : Prop := ∀ i (h : i < fs.length), V.cell? ⟨g, i * 2, none⟩ = some (.string fs[i].1) ∧ V.cell? ⟨g, i * 2 + 1, none⟩ = some (.string fs[i].2) ∧ V.frozen? ⟨g, i * 2 + 1, none⟩ = false
theorem FilesW.at {V : World} {g : Nat} {fs : List FileB} (h : FilesW V g fs) : FilesAt V g 0 fs := fun i hi => by
  rw [Nat.zero_add]
  exact ⟨(h i hi).1, (h i hi).2.1⟩
theorem FilesW.of {V : World} {g : Nat} {fs : List FileB} (h : HoldsK encF 2 V g 0 fs.toArray) : FilesW V g fs := fun i hi => by
  have ha := FilesAt.of_holds h i hi
  rw [Nat.zero_add] at ha
  have h2 := (HoldsK.cell h (i := i) (c := 1) (by simpa using hi) (by decide)).2
  rw [Nat.zero_add] at h2
  exact ⟨ha.1, ha.2, h2⟩
theorem FilesW.set {V : World} {g k : Nat} {fs : List FileB} (h : FilesW V g fs) (hk : k < fs.length) (t : ByteArray) : FilesW (V.setCell ⟨g, k * 2 + 1, none⟩ (.string t)) g (fs.set k (fs[k].1, t)) := fun i hi => by
  have hi' : i < fs.length := by rw [List.length_set] at hi; exact hi
  obtain ⟨a, b, c⟩ := h i hi'
  by_cases e : i = k
  · subst e
    rw [List.getElem_set_self]
    refine ⟨?_, World.cell?_setCell_same _ _ _ b, by rw [World.frozen?_setCell]; exact c⟩
    rw [World.cell?_setCell_other _ _ _ _ (by simp)]
    exact a
  · rw [List.getElem_set_ne (by omega)]
    refine ⟨?_, ?_, by rw [World.frozen?_setCell]; exact c⟩
    · rw [World.cell?_setCell_other _ _ _ _ (by intro x; injection x with _ x2; omega)]; exact a
    · rw [World.cell?_setCell_other _ _ _ _ (by intro x; injection x with _ x2; omega)]; exact b
/-- the first so many cut -/
def cutN (fs : List FileB) (k : Nat) : List FileB := (fs.take k).map cutF ++ fs.drop k
theorem cutN_len (fs : List FileB) (k : Nat) : (cutN fs k).length = fs.length := by unfold cutN; simp; omega
theorem cutN_at {fs : List FileB} {k : Nat} (hk : k < fs.length) : (cutN fs k)[k]'(by rw [cutN_len]; exact hk) = fs[k] := by
  have hl : ((fs.take k).map cutF).length = k := by simp; omega
  unfold cutN
  rw [List.getElem_append_right (by omega)]
  simp only [List.getElem_drop]
  congr 1
  rw [hl]
  omega
theorem cutN_next {fs : List FileB} {k : Nat} (hk : k < fs.length) : (cutN fs k).set k (cutF fs[k]) = cutN fs (k + 1) := by
  have hl : ((fs.take k).map cutF).length = k := by simp; omega
  unfold cutN
  rw [List.set_append_right _ _ (by omega), hl, Nat.sub_self, List.take_add_one, List.getElem?_eq_getElem hk, List.map_append, List.append_assoc]
  congr 1
  rw [List.drop_eq_getElem_cons hk]
  rfl
theorem cutN_all (fs : List FileB) : cutN fs fs.length = fs.map cutF := by unfold cutN; simp
/-- what Short answers -/
def ShoRet (w0 : World) (fs : List FileB) (e : Ending) (w : World) : Prop := ∃ g cap, e = .returned (.slice (some ⟨g, 0, none⟩) fs.length cap) ∧ w0.heap.size ≤ g ∧ g < w.heap.size ∧ fs.length ≤ cap ∧ FilesAt w g 0 fs
set_option maxHeartbeats 2000000 in
set_option maxRecDepth 100000 in
theorem short_any (v : Value) (n : Nat) (fs : List FileB) (w : World) (h : FilesV w v fs) (hn : n ≤ 1000) :
    Calls Tryz.prog 6 #[v, .int .i64 (n : Nat)] w fun e w' => ShoRet w ((fs.take n).map cutF) e w' ∧ Go.RowKit.Below w.heap.size w w' := by
  have HFW := hidM (few_any v n fs w h (by omega))
  have hl6 : (fs.take n).length ≤ 1000 := by rw [List.length_take]; omega
  generalize fs.take n = us at *
  have HALL := hidM (cutN_all us)
  clear h
  go_enter Tryz.func6, Tryz.ntmps6
  go_wp2_with fail
  refine HFW.out.mono ?_
  rintro _ w1 ⟨⟨g, cap, rfl, hg, hgl, hcap, hH⟩, hb1⟩
  have HW1 := hidM (FilesW.of hH)
  have HB1 := hidM hb1
  have HML : Hid ((us.map cutF).length = us.length) := by unfold Hid; simp
  clear hH hb1 HFW
  obtain ⟨len, hl⟩ : ∃ len, len = us.length := ⟨_, rfl⟩
  rw [← hl] at hcap hl6 HML HALL ⊢
  have HL := hidM hl
  clear hl
  go_wp2
  go_loopw [6, 12] (fun _ iv wr => ∃ k : Nat, k ≤ len ∧ iv = .int .i64 (k : Int) ∧ FilesW wr g (cutN us k) ∧ Go.RowKit.Below w.heap.size w wr ∧ g < wr.heap.size) (fun _ iv _ => len - (intOf iv).toNat)
  case atStart => exact ⟨0, Nat.zero_le _, rfl, HW1.out, HB1.out, hgl⟩
  case round =>
    obtain ⟨k, hk, rfl, hw, hbel, hgr⟩ := hrel
    have HW := hidM hw
    have HB := hidM hbel
    clear hw hbel HW1 HB1
    by_cases hlt : k < len
    · have hku : k < us.length := by rw [← HL.out]; exact hlt
      have hkc : k < (cutN us k).length := by rw [cutN_len]; exact hku
      obtain ⟨x0, x1, x2⟩ := HW.out k hkc
      rw [cutN_at hku] at x0 x1
      have HFS := hidM (fewL_any us[k].2 wr)
      have HNX : Hid (FilesW (wr.setCell ⟨g, k * 2 + 1, none⟩ (.string (fewS us[k].2))) g (cutN us (k + 1))) := by
        have h1 := HW.out.set hkc (fewS us[k].2)
        rw [cutN_at hku] at h1
        rw [← cutN_next hku]
        exact h1
      have HBN : Hid (Go.RowKit.Below w.heap.size w (wr.setCell ⟨g, k * 2 + 1, none⟩ (.string (fewS us[k].2)))) := HB.out.setCell hg _
      generalize us[k].1 = p1 at *
      generalize us[k].2 = p2 at *
      generalize fewS p2 = p3 at *
      clear hkc hku
      go_wp2_with fail
      refine HFS.out.mono ?_
      rintro _ w2 ⟨rfl, hw2⟩
      rw [hw2]
      clear hw2 HFS
      go_wp2
      go_roundw
      case rel => exact ⟨k + 1, by omega, by go_num, HNX.out, HBN.out, by simpa using hgr⟩
      case measure => simp [intOf]; omega
    · obtain rfl : k = len := by omega
      have HFA : Hid (FilesAt wr g 0 (us.map cutF)) := by
        have := HW.out.at
        rw [HALL.out] at this
        exact this
      go_wp2
      go_ret
      refine ⟨⟨g, cap, by rw [HML.out]; rfl, hg, hgr, by rw [HML.out]; exact hcap, HFA.out⟩, HB.out⟩
end Go.Proofs.YtjoomlpocpdonaaGreatDoor
namespace Go.Proofs.YtjoomlpocpdonaaGreatDoor
open Go.RowKit

theorem go_err (g : List UInt8 → Option (List UInt8)) (rows : List RowR) : ∀ k n, (goL g rows k n).1 ≠ 4 := by
  intro k
  induction k with
  | zero => intro n; show (9 : Nat) ≠ 4; decide
  | succ k ih =>
    intro n
    cases hg : g n with
    | none =>
      rw [goL_none hg]
      unfold unpR
      cases rows.find? (fun r => r.name == n) with
      | none => show (7 : Nat) ≠ 4; decide
      | some r => show (0 : Nat) ≠ 4; decide
    | some d =>
      rw [goL_some hg]
      split
      · exact ih _
      · by_cases h0 : (readL d).1 = 0
        · show (readL d).1 ≠ 4; omega
        · rw [read_err h0]; show (3 : Nat) ≠ 4; decide
theorem look_err {g : List UInt8 → Option (List UInt8)} {rows : List RowR} {n : List UInt8} (h : nameL n = true) : (lookL g rows n).1 ≠ 4 := by
  unfold lookL
  rw [if_pos h]
  exact go_err g rows 6 n
theorem look_absent {g : List UInt8 → Option (List UInt8)} {rows : List RowR} {n : List UInt8} (h : nameL n = true) (h7 : (lookL g rows n).1 = 7) : peeledL g rows n = [] := by
  unfold lookL at h7
  rw [if_pos h] at h7
  unfold peeledL
  cases hg : g n with
  | some d => rfl
  | none =>
    rw [show (6 : Nat) = 5 + 1 from rfl, goL_none hg] at h7
    unfold unpR at h7
    cases hf : rows.find? (fun r => r.name == n) with
    | none => rfl
    | some r => rw [hf] at h7; cases h7
theorem listed_name {gs : List FileB} {rows : List RowR} {front : List UInt8} {z : ByteArray} (hok : RowsOk rows) (h : NameIn gs rows front z) : nameL z.data.toList = true ∧ z.data.toList ≠ headL := by
  rcases h.1 with ⟨f, _,_, hp, hn⟩ | ⟨r, hr, rfl⟩
  · refine ⟨hn, fun e => ?_⟩
    rw [e] at hp
    exact absurd hp (by decide)
  · rw [mkB_list]; exact hok.named r hr
def cntN (l : List ByteArray) (front : List UInt8) (k : Nat) : Nat := ((l.take k).filter fun z => Lib.hasPrefix z.data.toList front).length
theorem cntN_next (l : List ByteArray) (front : List UInt8) (k : Nat) (h : k < l.length) : cntN l front (k + 1) = cntN l front k + if Lib.hasPrefix l[k].data.toList front = true then 1 else 0 := by
  unfold cntN
  rw [List.take_succ_eq_append_getElem h, List.filter_append, List.length_append]
  congr 1
  cases hs : Lib.hasPrefix l[k].data.toList front <;> simp [hs]
theorem cntN_le (l : List ByteArray) (front : List UInt8) (k : Nat) : cntN l front k ≤ k := by
  unfold cntN
  refine Nat.le_trans (List.length_filter_le _ _) ?_
  rw [List.length_take]; omega
theorem pre_nil (l : List UInt8) : Lib.hasPrefix l [] = true := by unfold Lib.hasPrefix; rfl
theorem names_cnt {gs : List FileB} {rows : List RowR} {front : List UInt8} {l m : List ByteArray} (hl : RiseB l) (hm : RiseB m) (h1 : ∀ z, z ∈ l ↔ NameIn gs rows [] z) (h2 : ∀ z, z ∈ m ↔ NameIn gs rows front z) : m.length = cntN l front l.length := by
  unfold cntN
  rw [List.take_length]
  have : m = l.filter fun z => Lib.hasPrefix z.data.toList front := by
    refine riseB_one hm (List.Pairwise.sublist List.filter_sublist hl) fun z => ?_
    rw [List.mem_filter, h1, h2]
    unfold NameIn
    rw [pre_nil]
    constructor
    · rintro ⟨a, b⟩; exact ⟨⟨a, rfl⟩, b⟩
    · rintro ⟨⟨a, _⟩, b⟩; exact ⟨a, b⟩
  rw [← this]
end Go.Proofs.YtjoomlpocpdonaaGreatDoor
namespace Go.Proofs.YtjoomlpocpdonaaGreatDoor
open Go.RowKit

theorem sho_size {fs : List FileB} {n : Nat} (hn : n ≤ 1000) : sizeF ((fs.take n).map cutF) ≤ 3000000 ∧ ((fs.take n).map cutF).length ≤ n ∧ ∀ f ∈ (fs.take n).map cutF, f.2.size ≤ 3000 := by
  have h2 : ∀ l : List FileB, (∀ f ∈ l, f.2.size ≤ 3000) → sizeF l ≤ 3000 * l.length := by
    intro l
    induction l with
    | nil => intro _; simp [sizeF]
    | cons f l ih =>
      intro h
      have h1 := h f (by simp)
      have h3 := ih fun g hg => h g (List.mem_cons_of_mem _ hg)
      unfold sizeF at h3 ⊢
      rw [List.map_cons, List.sum_cons, List.length_cons]; omega
  have h1 : ∀ f ∈ (fs.take n).map cutF, f.2.size ≤ 3000 := by
    intro f hf
    obtain ⟨g, _, rfl⟩ := List.mem_map.1 hf
    exact fewS_size _
  have h3 : ((fs.take n).map cutF).length ≤ n := by rw [List.length_map, List.length_take]; omega
  refine ⟨?_, h3, h1⟩
  have := h2 _ h1
  omega
set_option maxRecDepth 100000 in
set_option maxHeartbeats 4000000 in
theorem listed_walk (v : Value) (fs : List FileB) (front : ByteArray) (m : Int) (w : World) (hF : FilesV w v fs) (hm : w.cell? ⟨0, 0, none⟩ = some (.int .i64 m)) :
    Calls Tryz.prog 5 #[v, .string front] w fun e w' => e = .returned (.bool true) ∧ Below w.heap.size w w' := by
  have h0lt : 0 < w.heap.size := by
    rcases Nat.lt_or_ge 0 w.heap.size with h | h
    · exact h
    · unfold World.cell? at hm
      rw [Array.getElem?_eq_none (by simpa using h)] at hm
      cases hm
  have HG : Hid (GOk m w) := ⟨h0lt, hm⟩
  have HS := hidM (short_any v 40 fs w hF (by decide))
  obtain ⟨us, hus⟩ : ∃ us, (fs.take 40).map cutF = us := ⟨_, rfl⟩
  have hsz := sho_size (fs := fs) (n := 40) (by decide)
  rw [hus] at HS hsz
  obtain ⟨hz1, hz2, hz3⟩ := hsz
  have HZ := hidM hz3
  clear hm h0lt hF hus hz3
  go_enter Tryz.func5, Tryz.ntmps5
  go_wp2_with fail
  refine HS.out.mono ?_
  rintro _ w1 ⟨⟨g, cp, rfl, hg, hgl, hcp, hfa⟩, hb1⟩
  have HB1 := hidM hb1
  have HNW := hidM (new_any g 0 cp us w1 hgl hfa (by omega) (by omega))
  clear hb1 hfa HS hg hgl hcp
  go_wp2_with fail
  refine HNW.out.mono ?_
  rintro _ w2 ⟨hp, hb2⟩
  have HB2 := hidM (HB1.out.trans (hb2.mono HB1.out.size))
  have HAW := hidM (fun W hW => awake_any m W (HG.out.below hW))
  clear hb2 HNW HB1
  unfold NewPost newR at hp
  rcases hp with ⟨_, rfl⟩ | ⟨_,_, rfl⟩ | ⟨_,_, gs, q, b, c, hperm, hrs, hfo, hq, hbb, rfl⟩
  · go_wp2_with fail
    refine (HAW.out _ HB2.out).mono ?_
    rintro _ w3 ⟨rfl, hb3⟩
    have HB3 := hidM (HB2.out.trans (hb3.mono HB2.out.size))
    clear hb3
    go_wp2_with fail
    go_ret
    exact ⟨rfl, HB3.out⟩
  · go_wp2_with fail
    refine (HAW.out _ HB2.out).mono ?_
    rintro _ w3 ⟨rfl, hb3⟩
    have HB3 := hidM (HB2.out.trans (hb3.mono HB2.out.size))
    clear hb3
    go_wp2_with fail
    go_ret
    exact ⟨rfl, HB3.out⟩
  have HO := hidM (open_any q b 0 c gs m w2 hfo hrs (by rw [hperm.length_eq]; omega) (fun f hf => by have := HZ.out f (hperm.mem_iff.1 hf); omega) (HG.out.below HB2.out))
  have hgl : gs.length ≤ 40 := by rw [hperm.length_eq]; exact hz2
  clear hperm hrs hfo hq hbb HZ hz1 hz2
  go_wp2_with fail
  refine HO.out.mono ?_
  rintro _ w3 ⟨hp3, hb3⟩
  have HB3 := hidM (HB2.out.trans (hb3.mono HB2.out.size))
  clear hb3 HO HB2
  unfold OpenPost at hp3
  generalize parsed (textL gs) = PA at *
  obtain ⟨er, rows⟩ := PA
  simp only at hp3
  rcases hp3 with ⟨hne, rfl⟩ | ⟨_, r, mb, _, hR, rfl⟩
  · obtain ⟨ei, hei⟩ : ∃ ei : Int, ei = (er : Int) := ⟨_, rfl⟩
    have hne2 : (ei == 0) = false := by rw [hei]; simp; omega
    have hne3 : ¬ ei = 0 := by rw [hei]; omega
    rw [← hei]
    clear hne hei
    go_wp2_with fail
    refine (HAW.out _ HB3.out).mono ?_
    rintro _ w4 ⟨rfl, hb4⟩
    have HB4 := hidM (HB3.out.trans (hb4.mono HB3.out.size))
    clear hb4
    go_wp2_with fail
    go_ret
    refine ⟨?_, HB4.out⟩
    show Ending.returned (.bool (ei != 0)) = _
    rw [show (ei != 0) = true by simpa using hne3]
  have HR := hidM hR
  have HNM := hidM (names_any r b 0 c mb gs rows ⟨#[]⟩ m w3 hR (HG.out.below HB3.out))
  clear hR
  go_wp2_with fail
  refine HNM.out.mono ?_
  rintro _ w4 ⟨⟨va, l, rfl, hsv, hll, hri, hmem⟩, hb4⟩
  have HB4 := hidM (HB3.out.trans (hb4.mono HB3.out.size))
  have HR4 := hidM (HR.out.below hb4)
  have HRI := hidM hri
  have HME : Hid (∀ z, z ∈ l ↔ NameIn gs rows [] z) := hmem
  obtain ⟨a, cl, rfl, hst⟩ := hsv
  have HST : Hid (∀ W, Below w4.heap.size w4 W → ∀ j (h : j < l.length), ∃ g, a = some ⟨g, 0, none⟩ ∧ W.cell? ⟨g, j, none⟩ = some (.string l[j])) := fun W hW j h => by
    obtain ⟨g, h1, h2, h3⟩ := hst (fun hh => by rw [hh] at h; simp at h)
    exact ⟨g, h1, (h3.below hW h2) j h⟩
  have HNF := hidM (fun W hW => names_any r b 0 c mb gs rows front m W (HR4.out.below hW))
  clear hb4 HR hri hmem hst HNM HB3
  go_wp2_with fail
  go_loopw [10, 52] (fun nv i wr => ∃ (k : Nat), k ≤ l.length ∧ i = .int .i64 k ∧ nv = .int .i64 (cntN l front.data.toList k : Nat) ∧ Below w4.heap.size w4 wr) (fun _ i _ => l.length - (intOf i).toNat)
  case atStart => exact ⟨0, Nat.zero_le _, rfl, rfl, Below.refl _ _⟩
  case round =>
    obtain ⟨k, hk, rfl, rfl, hbr⟩ := hrel
    have HBR := hidM hbr
    have HRR := hidM (HR4.out.below hbr)
    have HGR := hidM (HG.out.below (HB4.out.trans (hbr.mono HB4.out.size)))
    clear hbr
    by_cases hlt : k < l.length
    · have kk : (k : Int) < (l.length : Int) := by omega
      obtain ⟨g2, rfl, y0⟩ := HST.out wr HBR.out k hlt
      have hnm := listed_name HRR.out.ok ((HME.out _).1 (List.getElem_mem hlt))
      have e1 : (l[k].toList == [72, 69, 65, 68]) = false := by rw [ByteArray.toList_eq]; exact beq_false_of_ne hnm.2
      have HNX : Hid (∀ W, GOk m W → Calls Tryz.prog 11 #[.string l[k]] W fun e w' => e = .returned (.bool true) ∧ Below W.heap.size W w') := fun W hW => by
        have := name_any l[k] m W hW
        rwa [hnm.1] at this
      have hxz : l[k].size ≤ 200 := by rw [← sl_len]; exact name_size hnm.1
      have HLK := hidM (lookup_any r b 0 c mb gs rows l[k] m wr HRR.out HGR.out)
      have HPE := hidM (fun W (hW : RefsAt W r b 0 c mb gs rows) => peeled_any r b 0 c mb gs rows l[k] W hW (by omega))
      have hl4 := look_err (g := getL gs) (rows := rows) hnm.1
      have h7p := look_absent (g := getL gs) (rows := rows) hnm.1
      have HPV : Hid (∀ W, Below w4.heap.size w4 W → (¬ (0 : Int) < (k : Int)) ∨ ∃ (j : Nat) (Y : ByteArray), (0 : Int) < (k : Int) ∧ (k : Int) - 1 = (j : Int) ∧ (j : Int) < (l.length : Int) ∧ W.cell? ⟨g2, j, none⟩ = some (.string Y) ∧ Op.bytesLess Y.toList l[k].toList = true) := fun W hW => by
        by_cases h0 : k = 0
        · left; omega
        · right
          obtain ⟨g3, hg3, hc3⟩ := HST.out W hW (k - 1) (by omega)
          obtain rfl : g2 = g3 := by injection hg3 with hg3; injection hg3
          refine ⟨k - 1, l[k - 1], by omega, by omega, by omega, hc3, ?_⟩
          rw [less_iff, decide_eq_true_eq]
          exact List.pairwise_iff_getElem.1 HRI.out (k - 1) k (by omega) hlt (by omega)
      have hcn := cntN_next l front.data.toList k hlt
      have hcl := cntN_le l front.data.toList k
      have hpr := Lib.hasPrefix_raw l[k] front
      have HFR : (¬ (front.size : Int) ≤ (l[k].size : Int) ∧ Hid (cntN l front.data.toList (k + 1) = cntN l front.data.toList k)) ∨ ((front.size : Int) ≤ (l[k].size : Int) ∧ ((l[k].extract 0 front.size).toList == front.toList) = true ∧ Hid (cntN l front.data.toList (k + 1) = cntN l front.data.toList k + 1)) ∨ ((front.size : Int) ≤ (l[k].size : Int) ∧ ((l[k].extract 0 front.size).toList == front.toList) = false ∧ Hid (cntN l front.data.toList (k + 1) = cntN l front.data.toList k)) := by
        by_cases hfz : front.size ≤ l[k].size
        · rw [show decide (front.size ≤ l[k].size) = true by simpa using hfz, Bool.true_and] at hpr
          right
          rw [← hpr] at hcn
          cases hq : ((l[k].extract 0 front.size).toList == front.toList) with
          | true => left; rw [hq, if_pos rfl] at hcn; exact ⟨by omega, rfl, hcn⟩
          | false => right; rw [hq, if_neg (by decide)] at hcn; exact ⟨by omega, rfl, hcn⟩
        · left
          rw [show decide (front.size ≤ l[k].size) = false by simpa using hfz, Bool.false_and] at hpr
          rw [← hpr, if_neg (by decide)] at hcn
          exact ⟨by omega, hcn⟩
      have e9 : ByteArray.empty.toList.isEmpty = true := by rw [ByteArray.toList_eq]; rfl
      clear hcn hpr hnm hxz
      generalize cntN l front.data.toList k = CN at *
      rw [pair_out] at HLK
      generalize hLR : lookL (getL gs) rows l[k].data.toList = LR at *
      clear hLR
      obtain ⟨le, lid⟩ := LR
      simp only at hl4 h7p HLK
      generalize l[k] = X at *
      generalize mkB lid = LB at *
      by_cases h7 : le = 7
      · subst h7
        rw [h7p rfl, show mkB [] = ByteArray.empty from rfl] at HPE
        clear hl4 h7p
        go_wp2_with fail
        refine HLK.out.mono ?_
        rintro _ w5 ⟨rfl, hb5⟩
        have HK5 := hidM (HBR.out.trans (hb5.mono HBR.out.size))
        have HG5 := hidM (HGR.out.below hb5)
        have HR5 := hidM (HRR.out.below hb5)
        clear hb5
        go_wp2_with fail
        refine (HNX.out _ HG5.out).mono ?_
        rintro _ w6 ⟨rfl, hb6⟩
        have HK6 := hidM (HK5.out.trans (hb6.mono HK5.out.size))
        have HR6 := hidM (HR5.out.below hb6)
        clear hb6 HG5 HK5 HR5
        go_wp2_with fail
        refine (HPE.out _ HR6.out).mono ?_
        rintro _ w7 ⟨rfl, hb7⟩
        have HK7 := hidM (HK6.out.trans (hb7.mono HK6.out.size))
        clear hb7 HR6
        rcases HPV.out _ HK7.out with hk0 | ⟨j, Y, hk0, hj, hj0, y1, hls⟩
        all_goals
          rcases HFR with ⟨hs1, HN⟩ | ⟨hs1, hs2, HN⟩ | ⟨hs1, hs2, HN⟩
        all_goals
          go_wp2_with fail
          go_roundw
          case rel => exact ⟨k + 1, by omega, by go_num, by rw [HN.out] <;> rfl, HK7.out⟩
          case measure => (show l.length - ((k : Int) + 1).toNat < l.length - ((k : Int)).toNat); omega
      · obtain ⟨li, hli⟩ : ∃ li : Int, li = (le : Int) := ⟨_, rfl⟩
        have f7 : ¬ li = 7 := by rw [hli]; omega
        have f4 : ¬ li = 4 := by rw [hli]; omega
        rw [← hli] at HLK
        clear hl4 h7p h7 hli HPE
        go_wp2_with fail
        refine HLK.out.mono ?_
        rintro _ w5 ⟨rfl, hb5⟩
        have HK5 := hidM (HBR.out.trans (hb5.mono HBR.out.size))
        have HG5 := hidM (HGR.out.below hb5)
        have HR5 := hidM (HRR.out.below hb5)
        clear hb5
        go_wp2_with fail
        refine (HNX.out _ HG5.out).mono ?_
        rintro _ w6 ⟨rfl, hb6⟩
        have HK6 := hidM (HK5.out.trans (hb6.mono HK5.out.size))
        have HR6 := hidM (HR5.out.below hb6)
        clear hb6 HG5 HK5 HR5
        rcases HPV.out _ HK6.out with hk0 | ⟨j, Y, hk0, hj, hj0, y1, hls⟩
        all_goals
          rcases HFR with ⟨hs1, HN⟩ | ⟨hs1, hs2, HN⟩ | ⟨hs1, hs2, HN⟩
        all_goals
          go_wp2_with fail
          go_roundw
          case rel => exact ⟨k + 1, by omega, by go_num, by rw [HN.out] <;> rfl, HK6.out⟩
          case measure => (show l.length - ((k : Int) + 1).toNat < l.length - ((k : Int)).toNat); omega
    · obtain rfl : k = l.length := by omega
      have HGB := hidM (HB4.out.trans (HBR.out.mono HB4.out.size))
      go_wp2_with fail
      refine (HAW.out _ HGB.out).mono ?_
      rintro _ w5 ⟨rfl, hb5⟩
      have HB5 := hidM (HGB.out.trans (hb5.mono HGB.out.size))
      have HK5 := hidM (HBR.out.trans (hb5.mono HBR.out.size))
      clear hb5
      go_wp2_with fail
      refine (HNF.out _ HK5.out (HG.out.below HB5.out)).mono ?_
      rintro _ w6 ⟨⟨vb, mm, rfl, hsv6, hl6, hri6, hme6⟩, hb6⟩
      have HB6 := hidM (HB5.out.trans (hb6.mono HB5.out.size))
      have HCT := hidM (names_cnt HRI.out hri6 HME.out hme6)
      obtain ⟨a6, c6, rfl, _⟩ := hsv6
      clear hb6 hri6 hme6
      rw [HCT.out]
      go_wp2_with fail
      go_ret
      exact ⟨rfl, HB6.out⟩
end Go.Proofs.YtjoomlpocpdonaaGreatDoor
namespace Go.Proofs.YtjoomlpocpdonaaGreatDoor
open Go.ChangeShapes Go.WideShapes Go.WideMaps Go.WideElems

def MI (w : World) : Prop := ∃ m, w.cell? ⟨0, 0, none⟩ = some (.int .i64 m)
theorem mi_of_open {w : World} (h : w.ShapedOpen Tryz.prog) : MI w :=
  cell_of_shapedOpen_int (P := Tryz.prog) (g := 0) (t := 3) (zero := #[.int .i64 0]) (k := .i64) h (of_decide_eq_true (by kernel_rfl)) (by kernel_rfl) rfl (by kernel_rfl) (by kernel_rfl) (by kernel_rfl)

theorem handed_open {H : Type} {enc : TypeId × Value → H} {a : Assume} {C : Checked} {os : Os} {f : FuncId} {fn : Func} {s : ChangeSpec} {conds : List PathCond} {apart fresh handsOn again : Bool} {X : World → Array Value → Prop}
    (hX : ∀ (w w' : World) (args : Array Value), w.heap = w'.heap → X w args → X w' args)
    (own : ownKnob C.prog.godebug = none) (started : os.Started) (noInit : C.prog.inits.idxOf? f = none) (hfn : C.prog.funcs[f]? = some fn)
    (wit : ∃ (w : World) (tape : Tape) (i : Input), w.os = os ∧ (w.forCall tape i).Shaped C.prog ∧ i.vars = [] ∧ Input.okWide C.prog (w.forCall tape i) .any w.heap.size f i ∧
      ((s.pre enc C.prog fn conds apart (w.forCall tape i).memory i.args ∧ X (w.forCall tape i).memory i.args) ∧ sizedMet enc C.prog fn (OpenSpec.ofChange s) apart (w.forCall tape i).memory i.args) ∧ a.holds C.prog (lone (Frame.enter C.prog f i.args .normal) [] (w.forCall tape i)))
    (K : ∀ (W : World) (base : Nat) (args : Array Value) (ds gs : List (DataW H)) (before : List MemPlace), W.ShapedOpen C.prog →
      (∀ (j : Nat) t v, fn.params[j]? = some t → args[j]? = some v → Value.okWide C.prog W .any base t v) →
      DataW.Whole enc C.prog fn.params.toList s.vars apart W args.toList ds gs before →
      conds.all (PathCond.test C.prog ⟨fn.params.toList, ds, s.plain.varTypes C.prog, gs⟩) = true →
      (DataW.weightsEach C.prog (fn.params.toList ++ s.plain.varTypes C.prog) (ds ++ gs)).all (· ≤ reachBytes) = true → X W args →
      Calls C.prog f args W fun e W' => ∃ v, e = .returned v ∧ s.post enc C.prog fn apart fresh handsOn again W args v W') :
    ReturnsInHanded a C os f .any (fun w args => (s.pre enc C.prog fn conds apart w args ∧ X w args) ∧ sizedMet enc C.prog fn (OpenSpec.ofChange s) apart w args) (s.post enc C.prog fn apart fresh handsOn again) := by
  refine returnsInHanded_of_calls own started noInit wit fun w tape i _ hso _ hok hpre _ => ?_
  obtain ⟨_,_,_, g, hg, _,_,_,_, hval⟩ := hok
  obtain rfl : g = fn := Option.some.inj (hg.symm.trans hfn)
  obtain ⟨⟨⟨ds, gs, before, hw, hc⟩, hx⟩, hz⟩ := hpre
  refine (K (w.forCall tape i) w.heap.size i.args ds gs before hso hval (DataW.Whole.of_heap (w' := w.forCall tape i) (by rfl) hw) hc (hz.weights hw) (hX _ _ _ (by rfl) hx)).mono fun e W' ⟨v, he, hp⟩ => ?_
  subst he
  exact ChangeSpec.post_blind hp
end Go.Proofs.YtjoomlpocpdonaaGreatDoor
namespace Go.Proofs.YtjoomlpocpdonaaGreatDoor
open Go.ChangeShapes Go.WideShapes Go.RowKit
theorem cells32 : Tryz.prog.cellsOf 48 = 2 := by kernel_rfl
theorem cells9' : Tryz.prog.cellsOf 9 = 1 := by kernel_rfl
theorem weightsAll_mem {H : Type} {P : Program} {e : TypeId} {l : List (DataW H)} {d : DataW H} (h : d ∈ l) {n : Nat} (hn : n ∈ d.weights P e) : n ∈ DataW.weightsAll P e l := by
  induction l with
  | nil => cases h
  | cons x l ih =>
    rw [DataW.weightsAll, List.mem_append]
    rcases List.mem_cons.1 h with rfl | h
    · exact .inl hn
    · exact .inr (ih h)
set_option maxRecDepth 100000 in
theorem open_files {H : Type} {enc : TypeId × Value → H} {W : World} {v : Value} {d : DataW H} {p : List MemPlace} {ts : List TypeId} {ds : List (DataW H)} {j : Nat} (hv1 : v.cells.toList = [v])
    (hw : (DataW.weightsEach Tryz.prog ts ds).all (· ≤ reachBytes) = true) (htj : ts[j]? = some 22) (hdj : ds[j]? = some d)
    (h : DataW.Trod enc Tryz.prog W 0 (fun _ => true) true 22 v d p) :
    ∃ fs, FilesV W v fs ∧ ∀ f ∈ fs, f.1.size ≤ 140737488355328 ∧ f.2.size ≤ 140737488355328 := by
  obtain ⟨fuel, hf⟩ := h
  rcases Deep.open_slice_pairs Tryz.underlying22 Tryz.underlying48 cells32 rfl rfl cells9' cells9' hf with ⟨h0, _⟩ | ⟨a, len, cap, m, n, V0, V1, D0, D1, P0, P1, h0, _, hlc, _, hm, hx, hall⟩
  · rw [hv1] at h0
    exact ⟨[], .inl ⟨by simpa using h0, rfl⟩, fun f hf => by cases hf⟩
  · rw [hv1] at h0
    have hv : v = .slice (some a) len cap := by simpa using h0
    by_cases hl : len = 0
    · subst hl
      exact ⟨[], .inr (.inl ⟨a, cap, hv, rfl⟩), fun f hf => by cases hf⟩
    · have hlm : len ≤ m := by rw [hm]; split <;> omega
      have each : ∀ i, i < len → ∃ f : FileB, W.cell? (a.add (i * 2)) = some (.string f.1) ∧ W.cell? (a.add (i * 2 + 1)) = some (.string f.2) ∧ f.1.size ≤ 140737488355328 ∧ f.2.size ≤ 140737488355328 := by
        intro i hi
        obtain ⟨c0, c1, t0, t1⟩ := hall i (by omega)
        obtain ⟨b0, e0, g0, _⟩ := DataW.trod_string Tryz.underlying9 t0
        obtain ⟨b1, e1, g1, _⟩ := DataW.trod_string Tryz.underlying9 t1
        simp only [List.cons.injEq, and_true] at e0 e1
        rw [e0] at c0
        rw [e1] at c1
        have hd : d = .slice ((List.range len).map fun i => .agg [D0 i, D1 i]) ((List.range (m - len)).map fun j => .agg [D0 (len + j), D1 (len + j)]) := congrArg Prod.fst hx
        have hmem : ∀ k, k ∈ (DataW.agg [D0 i, D1 i]).weights Tryz.prog 48 → k ≤ reachBytes := fun k hk => by
          have h1 : k ∈ d.weights Tryz.prog 22 := by
            rw [hd]
            simp only [DataW.weights, Tryz.underlying22]
            refine List.mem_cons_of_mem _ (List.mem_append.2 (.inl (weightsAll_mem (d := .agg [D0 i, D1 i]) (List.mem_map.2 ⟨i, List.mem_range.2 hi, rfl⟩) hk)))
          simpa using List.all_eq_true.1 hw _ (DataW.weights_mem_each htj hdj k h1)
        have k0 : D0 i = .lit (.string b0.data.toList) := congrArg Prod.fst g0
        have k1 : D1 i = .lit (.string b1.data.toList) := congrArg Prod.fst g1
        have s0 := hmem b0.size (by rw [Lib.size_eq]; simp [DataW.weights, DataW.weightsEach, Tryz.underlying48, k0])
        have s1 := hmem b1.size (by rw [Lib.size_eq]; simp [DataW.weights, DataW.weightsEach, Tryz.underlying48, k1])
        unfold reachBytes at s0 s1
        exact ⟨(b0, b1), c0, c1, (by show b0.size ≤ _; omega), (by show b1.size ≤ _; omega)⟩
      obtain ⟨F, hF⟩ := Deep.choose_lt each
      have ha : ∃ b off, a = ⟨b, off, none⟩ := by
        obtain ⟨c0, _⟩ := hF 0 (by omega)
        rcases a with ⟨b, off, x⟩
        cases x with
        | none => exact ⟨b, off, rfl⟩
        | some y =>
          simp [World.cell?, Addr.add] at c0
          split at c0 <;> cases c0
      obtain ⟨b, off, rfl⟩ := ha
      have hlen : ((List.range len).map F).length = len := by simp
      refine ⟨(List.range len).map F, .inr (.inr ⟨b, off, cap, by rw [hlen]; exact hv, ?_, by rw [hlen]; exact hlc⟩), ?_⟩
      · intro i hi
        rw [hlen] at hi
        obtain ⟨c0, c1, _⟩ := hF i hi
        simp only [List.getElem_map, List.getElem_range]
        rw [Addr.add_lit] at c0 c1
        exact ⟨c0, by rw [← Nat.add_assoc] at c1; exact c1⟩
      · intro f hf
        obtain ⟨i, hi, rfl⟩ := List.mem_map.1 hf
        exact (hF i (List.mem_range.1 hi)).2.2
end Go.Proofs.YtjoomlpocpdonaaGreatDoor
namespace Go.Proofs.YtjoomlpocpdonaaGreatDoor
open Go.ChangeShapes Go.WideShapes Go.ChangeAt Go.WideMaps Go.WideElems Go.RowKit

def laidT : List (String × DataW Unit) := [("unicode/utf8.acceptRanges", Rows.laid_unicode_utf8_acceptRanges), ("unicode/utf8.first", Rows.laid_unicode_utf8_first)]
theorem own : ownKnob Tryz.prog.godebug = none := by kernel_rfl
theorem laidOut : laidOutB Tryz.prog = true := by kernel_rfl
theorem laidT_met (os : Os) (args : Array Value) : laidMetH Tryz.prog laidT ((World.laidAll Tryz.prog os laidT).forCall (fun _ _ => 0) ⟨#[], args, []⟩).memory := by
  rw [MakeChecks.laidMetH_plain _ _ _ (by kernel_rfl)]; exact laidMet_laidAll _ (by kernel_rfl) (by kernel_rfl)
end Go.Proofs.YtjoomlpocpdonaaGreatDoor
