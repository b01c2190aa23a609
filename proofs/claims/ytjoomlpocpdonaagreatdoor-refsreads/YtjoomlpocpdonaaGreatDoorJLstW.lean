/-
  Walks of the law's own: Few of a text, Short.
  What the law of the listed names asks of looking up.
  RefsListed, the law's walk.
-/
import Derived.Test.YtjoomlpocpdonaaGreatDoorJRfNb
namespace Go.Proofs.YtjoomlpocpdonaaGreatDoor
open Go.RowKit Go.Sort

def fewS (s : ByteArray) : ByteArray := if 3000 < s.size then s.extract 0 3000 else s
theorem fewS_size (s : ByteArray) : (fewS s).size ≤ 3000 := by
  unfold fewS
  split
  · rw [ByteArray.size_extract]; omega
  · omega
set_option maxRecDepth 100000 in
theorem fewL_any (s : ByteArray) (w : World) : Calls Tryz.prog 22 #[.string s, .int .i64 3000] w fun e w' => e = .returned (.string (fewS s)) ∧ w' = w := by
  unfold fewS
  by_cases h : 3000 < s.size
  · rw [if_pos h]
    have g1 : (3000 : Int) < (s.size : Int) := by omega
    have g2 : (3000 : Int) ≤ (s.size : Int) := by omega
    go_enter Tryz.func22, Tryz.ntmps22
    go_wp2
    go_ret
    exact ⟨rfl, rfl⟩
  · rw [if_neg h]
    have g1 : ¬ (3000 : Int) < (s.size : Int) := by omega
    go_enter Tryz.func22, Tryz.ntmps22
    go_wp2
    go_ret
    exact ⟨rfl, rfl⟩
def cutF (f : FileB) : FileB := (f.1, fewS f.2)
/-- files in a row of the call's own, into which it may store -/
def FilesW (V : World) (g : Nat) (fs : List FileB) : Prop := ∀ i (h : i < fs.length), V.cell? ⟨g, i * 2, none⟩ = some (.string fs[i].1) ∧ V.cell? ⟨g, i * 2 + 1, none⟩ = some (.string fs[i].2) ∧ V.frozen? ⟨g, i * 2 + 1, none⟩ = false
theorem FilesW.at {V : World} {g : Nat} {fs : List FileB} (h : FilesW V g fs) : FilesAt V g 0 fs := fun i hi => by
  rw [Nat.zero_add]
  exact ⟨(h i hi).1, (h i hi).2.1⟩
theorem FilesW.of {V : World} {g : Nat} {fs : List FileB} (h : HoldsK encF 2 V g 0 fs.toArray) : FilesW V g fs := fun i hi => by
  have ha := FilesAt.of_holds h i hi
  rw [Nat.zero_add] at ha
  have h2 := (HoldsK.cell h (i := i) (c := 1) (by simpa using hi) (by decide)).2
  rw [Nat.zero_add] at h2
  exact ⟨ha.1, ha.2, h2⟩
theorem FilesW.set {V : World} {g k : Nat} {fs : List FileB} (h : FilesW V g fs) (hk : k < fs.length) (t : ByteArray) : FilesW (V.setCell ⟨g, k * 2 + 1, none⟩ (.string t)) g (fs.set k (fs[k].1, t)) := fun i hi => by
  have hi' : i < fs.length := by rw [List.length_set] at hi; exact hi
  obtain ⟨a, b, c⟩ := h i hi'
  by_cases e : i = k
  · subst e
    rw [List.getElem_set_self]
    refine ⟨?_, World.cell?_setCell_same _ _ _ b, by rw [World.frozen?_setCell]; exact c⟩
    rw [World.cell?_setCell_other _ _ _ _ (by simp)]
    exact a
  · rw [List.getElem_set_ne (by omega)]
    refine ⟨?_, ?_, by rw [World.frozen?_setCell]; exact c⟩
    · rw [World.cell?_setCell_other _ _ _ _ (by intro x; injection x with _ x2; omega)]; exact a
    · rw [World.cell?_setCell_other _ _ _ _ (by intro x; injection x with _ x2; omega)]; exact b
/-- the first so many cut -/
def cutN (fs : List FileB) (k : Nat) : List FileB := (fs.take k).map cutF ++ fs.drop k
theorem cutN_len (fs : List FileB) (k : Nat) : (cutN fs k).length = fs.length := by unfold cutN; simp; omega
theorem cutN_at {fs : List FileB} {k : Nat} (hk : k < fs.length) : (cutN fs k)[k]'(by rw [cutN_len]; exact hk) = fs[k] := by
  have hl : ((fs.take k).map cutF).length = k := by simp; omega
  unfold cutN
  rw [List.getElem_append_right (by omega)]
  simp only [List.getElem_drop]
  congr 1
  rw [hl]
  omega
theorem cutN_next {fs : List FileB} {k : Nat} (hk : k < fs.length) : (cutN fs k).set k (cutF fs[k]) = cutN fs (k + 1) := by
  have hl : ((fs.take k).map cutF).length = k := by simp; omega
  unfold cutN
  rw [List.set_append_right _ _ (by omega), hl, Nat.sub_self, List.take_add_one, List.getElem?_eq_getElem hk, List.map_append, List.append_assoc]
  congr 1
  rw [List.drop_eq_getElem_cons hk]
  rfl
theorem cutN_all (fs : List FileB) : cutN fs fs.length = fs.map cutF := by unfold cutN; simp
/-- what Short answers -/
def ShoRet (w0 : World) (fs : List FileB) (e : Ending) (w : World) : Prop := ∃ g cap, e = .returned (.slice (some ⟨g, 0, none⟩) fs.length cap) ∧ w0.heap.size ≤ g ∧ g < w.heap.size ∧ fs.length ≤ cap ∧ FilesAt w g 0 fs
set_option maxHeartbeats 2000000 in
set_option maxRecDepth 100000 in
theorem short_any (v : Value) (n : Nat) (fs : List FileB) (w : World) (h : FilesV w v fs) (hn : n ≤ 1000) :
    Calls Tryz.prog 6 #[v, .int .i64 (n : Nat)] w fun e w' => ShoRet w ((fs.take n).map cutF) e w' ∧ Go.RowKit.Below w.heap.size w w' := by
  have HFW := hidM (few_any v n fs w h (by omega))
  have hl6 : (fs.take n).length ≤ 1000 := by rw [List.length_take]; omega
  generalize fs.take n = us at *
  have HALL := hidM (cutN_all us)
  clear h
  go_enter Tryz.func6, Tryz.ntmps6
  go_wp2_with fail
  refine HFW.out.mono ?_
  rintro _ w1 ⟨⟨g, cap, rfl, hg, hgl, hcap, hH⟩, hb1⟩
  have HW1 := hidM (FilesW.of hH)
  have HB1 := hidM hb1
  have HML : Hid ((us.map cutF).length = us.length) := by unfold Hid; simp
  clear hH hb1 HFW
  obtain ⟨len, hl⟩ : ∃ len, len = us.length := ⟨_, rfl⟩
  rw [← hl] at hcap hl6 HML HALL ⊢
  have HL := hidM hl
  clear hl
  go_wp2
  go_loopw [6, 12] (fun _ iv wr => ∃ k : Nat, k ≤ len ∧ iv = .int .i64 (k : Int) ∧ FilesW wr g (cutN us k) ∧ Go.RowKit.Below w.heap.size w wr ∧ g < wr.heap.size) (fun _ iv _ => len - (intOf iv).toNat)
  case atStart => exact ⟨0, Nat.zero_le _, rfl, HW1.out, HB1.out, hgl⟩
  case round =>
    obtain ⟨k, hk, rfl, hw, hbel, hgr⟩ := hrel
    have HW := hidM hw
    have HB := hidM hbel
    clear hw hbel HW1 HB1
    by_cases hlt : k < len
    · have hku : k < us.length := by rw [← HL.out]; exact hlt
      have hkc : k < (cutN us k).length := by rw [cutN_len]; exact hku
      obtain ⟨x0, x1, x2⟩ := HW.out k hkc
      rw [cutN_at hku] at x0 x1
      have HFS := hidM (fewL_any us[k].2 wr)
      have HNX : Hid (FilesW (wr.setCell ⟨g, k * 2 + 1, none⟩ (.string (fewS us[k].2))) g (cutN us (k + 1))) := by
        have h1 := HW.out.set hkc (fewS us[k].2)
        rw [cutN_at hku] at h1
        rw [← cutN_next hku]
        exact h1
      have HBN : Hid (Go.RowKit.Below w.heap.size w (wr.setCell ⟨g, k * 2 + 1, none⟩ (.string (fewS us[k].2)))) := HB.out.setCell hg _
      generalize us[k].1 = p1 at *
      generalize us[k].2 = p2 at *
      generalize fewS p2 = p3 at *
      clear hkc hku
      go_wp2_with fail
      refine HFS.out.mono ?_
      rintro _ w2 ⟨rfl, hw2⟩
      rw [hw2]
      clear hw2 HFS
      go_wp2
      go_roundw
      case rel => exact ⟨k + 1, by omega, by go_num, HNX.out, HBN.out, by simpa using hgr⟩
      case measure => simp [intOf]; omega
    · obtain rfl : k = len := by omega
      have HFA : Hid (FilesAt wr g 0 (us.map cutF)) := by
        have := HW.out.at
        rw [HALL.out] at this
        exact this
      go_wp2
      go_ret
      refine ⟨⟨g, cap, by rw [HML.out]; rfl, hg, hgr, by rw [HML.out]; exact hcap, HFA.out⟩, HB.out⟩
end Go.Proofs.YtjoomlpocpdonaaGreatDoor
namespace Go.Proofs.YtjoomlpocpdonaaGreatDoor
open Go.RowKit

theorem listed_name {gs : List FileB} {rows : List RowR} {front : List UInt8} {z : ByteArray} (hok : RowsOk rows) (h : NameIn gs rows front z) : nameL z.data.toList = true ∧ z.data.toList ≠ headL := by
  rcases h.1 with ⟨f, _,_, hp, hn⟩ | ⟨r, hr, rfl⟩
  · refine ⟨hn, fun e => ?_⟩
    rw [e] at hp
    exact absurd hp (by decide)
  · rw [mkB_list]; exact hok.named r hr
end Go.Proofs.YtjoomlpocpdonaaGreatDoor
namespace Go.Proofs.YtjoomlpocpdonaaGreatDoor
open Go.RowKit

theorem sho_size {fs : List FileB} {n : Nat} (hn : n ≤ 1000) : sizeF ((fs.take n).map cutF) ≤ 3000000 ∧ ((fs.take n).map cutF).length ≤ n ∧ ∀ f ∈ (fs.take n).map cutF, f.2.size ≤ 3000 := by
  have h2 : ∀ l : List FileB, (∀ f ∈ l, f.2.size ≤ 3000) → sizeF l ≤ 3000 * l.length := by
    intro l
    induction l with
    | nil => intro _; simp [sizeF]
    | cons f l ih =>
      intro h
      have h1 := h f (by simp)
      have h3 := ih fun g hg => h g (List.mem_cons_of_mem _ hg)
      unfold sizeF at h3 ⊢
      rw [List.map_cons, List.sum_cons, List.length_cons]; omega
  have h1 : ∀ f ∈ (fs.take n).map cutF, f.2.size ≤ 3000 := by
    intro f hf
    obtain ⟨g, _, rfl⟩ := List.mem_map.1 hf
    exact fewS_size _
  have h3 : ((fs.take n).map cutF).length ≤ n := by rw [List.length_map, List.length_take]; omega
  refine ⟨?_, h3, h1⟩
  have := h2 _ h1
  omega
end Go.Proofs.YtjoomlpocpdonaaGreatDoor
