/-
  RefsShadow: a reference's file in place of others; rows of files of the call's own.
  RefsShadow, the law's walk.
  The way to the card where the road reads a variable that no laid table ties: the world that the card hands on is of its shape, and this says what the variable holds.
  A slice of files that was handed in, opened.
  A heap into which the listed tables are laid meets the rows' condition.
-/
import Derived.Test.YtjoomlpocpdonaaGreatDoorJLstW
import Derived.Test.YtjoomlpocpdonaaGreatDoorJRfW
import Derived.Handed
import Derived.SizedLaws
import Derived.ChangeOld
import Derived.ShutString
import Derived.Shelf.Vars
import Derived.Test.YtjoomlpocpdonaaGreatDoorJSnapL
import Derived.Deep.SlicePairs
import Derived.Test.YtjoomlpocpdonaaGreatDoorRows
import Derived.ProofKit
import Derived.Lay
import Derived.LaidMore
import Derived.OpenShut
import Derived.Stop.Joined
import Derived.Stop.LaidErr
import Derived.Lib.LaidTab
namespace Go.Proofs.YtjoomlpocpdonaaGreatDoor
open Go.RowKit

def flatF (fs : List FileB) : List Value := fs.flatMap fun f => [.string f.1, .string f.2]
theorem flatF_app (a b : List FileB) : flatF (a ++ b) = flatF a ++ flatF b := by unfold flatF; rw [List.flatMap_append]
theorem flatF_get : ∀ (fs : List FileB) (i : Nat) (h : i < fs.length), (flatF fs)[i * 2]? = some (.string fs[i].1) ∧ (flatF fs)[i * 2 + 1]? = some (.string fs[i].2)
  | [], i, h => by simp at h
  | f :: fs, 0, h => by simp [flatF]
  | f :: fs, i + 1, h => by
    have ih := flatF_get fs i (by simpa using h)
    have e : flatF (f :: fs) = .string f.1 :: .string f.2 :: flatF fs := by simp [flatF]
    rw [e, show (i + 1) * 2 = i * 2 + 2 by omega, show i * 2 + 2 + 1 = i * 2 + 1 + 2 by omega]
    simpa using ih
def OwnF (w : World) (B : Nat) (v : Value) (fs : List FileB) : Prop := w.ownsRow B 48 2 v fs.length (flatF fs)
theorem OwnF.push {w : World} {B : Nat} {v : Value} {fs : List FileB} {f : FileB} (h : w.ownsRow B 48 2 v (fs.length + 1) (flatF fs ++ [.string f.1, .string f.2])) : OwnF w B v (fs ++ [f]) := by
  unfold OwnF
  rw [flatF_app, List.length_append]
  exact h
theorem OwnF.files {w : World} {B : Nat} {v : Value} {fs : List FileB} (h : OwnF w B v fs) (hne : fs ≠ []) : ∃ g c, v = .slice (some ⟨g, 0, none⟩) fs.length c ∧ B ≤ g ∧ g < w.heap.size ∧ FilesAt w g 0 fs := by
  have h' := h
  rcases h.2 with ⟨hnil, hn⟩ | ⟨g, cap, cur, rfl, hbase, hbk, h1, h2, h3, h4⟩
  · exact absurd (List.eq_nil_of_length_eq_zero hn) hne
  · refine ⟨g, cap, rfl, hbase, (Array.getElem?_eq_some_iff.1 hbk).1, fun i hi => ?_⟩
    have hh := flatF_get fs i hi
    have c1 := World.ownsRow.cells h' (g := g) rfl (i * 2) _ hh.1
    have c2 := World.ownsRow.cells h' (g := g) rfl (i * 2 + 1) _ hh.2
    rw [Addr.add_lit] at c1 c2
    exact ⟨c1, by rw [show 0 + i * 2 + 1 = 0 + (i * 2 + 1) by omega]; exact c2⟩
theorem OwnF.below {w w' : World} {B : Nat} {v : Value} {fs : List FileB} (h : OwnF w B v fs) (hb : Below w.heap.size w w') : OwnF w' B v fs := h.kept (below_none hb) (by
  cases hv : v.ownBlock with
  | none => exact .inl rfl
  | some x => exact .inr (by simp))
theorem OwnF.slice {w : World} {B : Nat} {v : Value} {fs : List FileB} (h : OwnF w B v fs) (hv : v ≠ .slice none 0 0) : ∃ g c, v = .slice (some ⟨g, 0, none⟩) fs.length c ∧ B ≤ g ∧ g < w.heap.size ∧ FilesAt w g 0 fs := by
  by_cases hf : fs = []
  · subst hf
    rcases h.2 with ⟨hnil, hn⟩ | ⟨g, cap, cur, rfl, hbase, hbk, h1, h2, h3, h4⟩
    · exact absurd hnil hv
    · exact ⟨g, cap, rfl, hbase, (Array.getElem?_eq_some_iff.1 hbk).1, fun i hi => by simp at hi⟩
  · exact h.files hf
theorem OwnF.nonnil {w : World} {B : Nat} {v : Value} {fs : List FileB} (h : OwnF w B v fs) (hf : fs ≠ []) : v ≠ .slice none 0 0 := by
  obtain ⟨g, c, rfl, _⟩ := h.files hf
  simp
def restF (us : List FileB) (nm : ByteArray) (k : Nat) : List FileB := (us.take k).filter fun f => !(f.1.toList == nm.toList)
theorem restF_next (us : List FileB) (nm : ByteArray) (k : Nat) (h : k < us.length) : restF us nm (k + 1) = restF us nm k ++ if (us[k].1.toList == nm.toList) = true then [] else [us[k]] := by
  unfold restF
  rw [List.take_succ_eq_append_getElem h, List.filter_append]
  congr 1
  cases hs : (us[k].1.toList == nm.toList) <;> simp [hs]
theorem restF_len (us : List FileB) (nm : ByteArray) (k : Nat) : (restF us nm k).length ≤ k := by
  unfold restF
  refine Nat.le_trans (List.length_filter_le _ _) ?_
  rw [List.length_take]; omega
theorem restF_mem {us : List FileB} {nm : ByteArray} {k : Nat} {f : FileB} (h : f ∈ restF us nm k) : f ∈ us ∧ f.1 ≠ nm := by
  unfold restF at h
  rw [List.mem_filter] at h
  refine ⟨List.mem_of_mem_take h.1, fun e => ?_⟩
  have := h.2
  rw [e] at this
  simp at this
theorem sizeF_bound (l : List FileB) (n : Nat) (h : ∀ f ∈ l, f.2.size ≤ n) : sizeF l ≤ n * l.length := by
  induction l with
  | nil => simp [sizeF]
  | cons f l ih =>
    have h1 := h f (by simp)
    have h3 := ih fun g hg => h g (List.mem_cons_of_mem _ hg)
    unfold sizeF at h3 ⊢
    rw [List.map_cons, List.sum_cons, List.length_cons, Nat.mul_add]; omega
theorem shadow_text {gs gt rest : List FileB} {nm d : ByteArray} (h1 : gs.Perm rest) (h2 : gt.Perm (rest ++ [(nm, d)])) (ha : Apart gs) (hb : Apart gt) (hn : nameL nm.data.toList = true) : textL gt = textL gs := by
  unfold textL
  have hne : nm.data.toList ≠ packedL := fun e => by rw [e] at hn; exact absurd hn (by decide)
  rw [getL_perm h1 ha ((Apart.perm h1).1 ha), getL_perm h2 hb ((Apart.perm h2).1 hb)]
  congr 1
  unfold getL
  rw [List.find?_append]
  have : ([(nm, d)] : List FileB).find? (fun f => f.1.data.toList == packedL) = none := by
    rw [List.find?_cons, beq_false_of_ne hne]; rfl
  rw [this, Option.or_none]
theorem shadow_get {gt rest : List FileB} {nm d : ByteArray} (h2 : gt.Perm (rest ++ [(nm, d)])) (hb : Apart gt) : getL gt nm.data.toList = some d.data.toList :=
  getL_some hb (f := (nm, d)) (h2.mem_iff.2 (by simp))
theorem shadow_none {gs rest : List FileB} {nm : ByteArray} (h1 : gs.Perm rest) (hr : ∀ f ∈ rest, f.1 ≠ nm) : getL gs nm.data.toList = none :=
  getL_none fun f hf e => hr f (h1.mem_iff.1 hf) (ba_eq e)
theorem shadow_read {id : ByteArray} (hid : idB id.data.toList = true) : readL (id.data.toList ++ [10]) = (0, id.data.toList, []) := by
  unfold readL
  rw [suffix_app, if_neg (by decide), List.dropLast_concat, if_pos hid]
theorem shadow_look {gt : List FileB} {rows : List RowR} {n id : List UInt8} (hn : nameL n = true) (hg : getL gt n = some (id ++ [10])) (hr : readL (id ++ [10]) = (0, id, [])) : lookL (getL gt) rows n = (0, id) := by
  unfold lookL
  rw [if_pos hn, show (6 : Nat) = 5 + 1 from rfl, goL_some hg, hr, if_neg (by simp)]
theorem shadow_peel {gt : List FileB} {rows : List RowR} {n d : List UInt8} (hg : getL gt n = some d) : peeledL (getL gt) rows n = [] := by
  unfold peeledL; rw [hg]
theorem shadow_other {gs : List FileB} {rows : List RowR} {n : List UInt8} (hn : nameL n = true) (hg : getL gs n = none) : (∃ r ∈ rows, r.name = n ∧ lookL (getL gs) rows n = (0, r.id)) ∨ lookL (getL gs) rows n = (7, []) := by
  unfold lookL
  rw [if_pos hn, show (6 : Nat) = 5 + 1 from rfl, goL_none hg]
  unfold unpR
  cases hf : rows.find? (fun r => r.name == n) with
  | none => exact .inr rfl
  | some r =>
    obtain ⟨h1, h2⟩ := find_name hf
    exact .inl ⟨r, h1, h2, rfl⟩
theorem pre_self (l : List UInt8) : Lib.hasPrefix l l = true := by
  unfold Lib.hasPrefix
  exact List.isPrefixOf_iff_prefix.2 (List.prefix_refl l)
theorem Folder.kept {w w' : World} {q b off c : Nat} {fs : List FileB} {row : Option Nat} (h : Folder w q b off c fs) (hg : w.grownBy w' row) (h1 : row ≠ some q) (h2 : row ≠ some b) : Folder w' q b off c fs := by
  have e1 := hg.block q h.qlt (fun e => h1 e.symm)
  have e2 := hg.block b h.blt (fun e => h2 e.symm)
  refine ⟨(World.cell?_of_block (a := ⟨q, 0, none⟩) e1).trans h.cell, fun i hi => ?_, Nat.lt_of_lt_of_le h.qlt hg.size, Nat.lt_of_lt_of_le h.blt hg.size, h.cap⟩
  obtain ⟨c1, c2⟩ := h.files i hi
  exact ⟨(World.cell?_of_block (a := ⟨b, off + i * 2, none⟩) e2).trans c1, (World.cell?_of_block (a := ⟨b, off + i * 2 + 1, none⟩) e2).trans c2⟩
def NewR2 (w0 : World) (fs : List FileB) (p : Option Addr) (n : Int) (w : World) : Prop :=
  ((n = 2 ∨ n = 4) ∧ p = none) ∨ (n = 0 ∧ ∃ gs q b c, gs.Perm fs ∧ RiseS gs ∧ Folder w q b 0 c gs ∧ w0.heap.size ≤ q ∧ w0.heap.size ≤ b ∧ p = some ⟨q, 0, none⟩)
theorem new_two {w0 w : World} {fs : List FileB} {e : Ending} (h : NewPost w0 fs e w) : ∃ p n, e = .returned (.tuple #[.pointer p, .int .i64 n]) ∧ NewR2 w0 fs p n w := by
  rcases h with ⟨_, rfl⟩ | ⟨_,_, rfl⟩ | ⟨_,_, gs, q, b, c, h1, h2, h3, h4, h5, rfl⟩
  · exact ⟨none, 2, rfl, .inl ⟨.inl rfl, rfl⟩⟩
  · exact ⟨none, 4, rfl, .inl ⟨.inr rfl, rfl⟩⟩
  · exact ⟨_, 0, rfl, .inr ⟨rfl, gs, q, b, c, h1, h2, h3, h4, h5, rfl⟩⟩
end Go.Proofs.YtjoomlpocpdonaaGreatDoor
namespace Go.Proofs.YtjoomlpocpdonaaGreatDoor
open Go.RowKit

set_option maxRecDepth 100000 in
set_option maxHeartbeats 4000000 in
theorem shadow_walk (v : Value) (fs : List FileB) (nm id : ByteArray) (m : Int) (w : World) (hF : FilesV w v fs) (hm : w.cell? ⟨0, 0, none⟩ = some (.int .i64 m)) :
    Calls Tryz.prog 4 #[v, .string nm, .string id] w fun e w' => e = .returned (.bool true) ∧ Below w.heap.size w w' := by
  have h0lt : 0 < w.heap.size := by
    rcases Nat.lt_or_ge 0 w.heap.size with h | h
    · exact h
    · unfold World.cell? at hm
      rw [Array.getElem?_eq_none (by simpa using h)] at hm
      cases hm
  have HG : Hid (GOk m w) := ⟨h0lt, hm⟩
  have HS := hidM (short_any v 40 fs w hF (by decide))
  obtain ⟨us, hus⟩ : ∃ us, (fs.take 40).map cutF = us := ⟨_, rfl⟩
  have hsz := sho_size (fs := fs) (n := 40) (by decide)
  rw [hus] at HS hsz
  obtain ⟨hz1, hz2, hz3⟩ := hsz
  have HZ := hidM hz3
  clear hm h0lt hF hus hz3
  have HAW := hidM (fun W hW => awake_any m W (HG.out.below hW))
  have HID := hidM (fun W => rid_any id W)
  have HRN := hidM (fun W => rname_any nm W)
  cases hid : idB id.data.toList with
  | false =>
    rw [hid] at HID
    go_enter Tryz.func4, Tryz.ntmps4
    go_wp2_with fail
    refine HS.out.mono ?_
    rintro _ w1 ⟨⟨g, cp, rfl, hg, hgl, hcp, hfa⟩, hb1⟩
    have HB1 := hidM hb1
    clear hb1 hfa HS hg hgl hcp
    go_wp2_with fail
    refine (HID.out _).mono ?_
    rintro _ w2 ⟨rfl, rfl⟩
    go_wp2_with fail
    refine (HAW.out _ HB1.out).mono ?_
    rintro _ w3 ⟨rfl, hb3⟩
    have HB3 := hidM (HB1.out.trans (hb3.mono HB1.out.size))
    clear hb3
    go_wp2_with fail
    go_ret
    exact ⟨rfl, HB3.out⟩
  | true =>
  rw [hid] at HID
  cases hn : nameL nm.data.toList with
  | false =>
    rw [hn] at HRN
    go_enter Tryz.func4, Tryz.ntmps4
    go_wp2_with fail
    refine HS.out.mono ?_
    rintro _ w1 ⟨⟨g, cp, rfl, hg, hgl, hcp, hfa⟩, hb1⟩
    have HB1 := hidM hb1
    clear hb1 hfa HS hg hgl hcp
    go_wp2_with fail
    refine (HID.out _).mono ?_
    rintro _ w2 ⟨rfl, rfl⟩
    go_wp2_with fail
    refine (HRN.out _).mono ?_
    rintro _ w3 ⟨rfl, hb3⟩
    have HB3 := hidM (HB1.out.trans (hb3.mono HB1.out.size))
    clear hb3
    go_wp2_with fail
    refine (HAW.out _ HB3.out).mono ?_
    rintro _ w4 ⟨rfl, hb4⟩
    have HB4 := hidM (HB3.out.trans (hb4.mono HB3.out.size))
    clear hb4
    go_wp2_with fail
    go_ret
    exact ⟨rfl, HB4.out⟩
  | true =>
  rw [hn] at HRN
  have HNM := hidM hn
  have HI := hidM hid
  have hi40 : id.size = 40 := by rw [← sl_len]; exact idB_size hid
  obtain ⟨i0, hi, hz0, hz1', hz2'⟩ := info_parts info32
  clear hid hn
  go_enter Tryz.func4, Tryz.ntmps4
  go_wp2_with fail
  refine HS.out.mono ?_
  rintro _ w1 ⟨⟨g, cp, rfl, hg, hgl, hcp, hfa⟩, hb1⟩
  have HB1 := hidM hb1
  have HFA := hidM hfa
  clear hb1 HS hg hcp hfa
  go_wp2_with fail
  refine (HID.out _).mono ?_
  rintro _ w1' ⟨rfl, rfl⟩
  go_wp2_with fail
  refine (HRN.out _).mono ?_
  rintro _ w2 ⟨rfl, hb2⟩
  have HB2 := hidM (HB1.out.trans (hb2.mono HB1.out.size))
  have HFA2 := hidM (HFA.out.below hb2 hgl)
  have hgl2 : g < w2.heap.size := Nat.lt_of_lt_of_le hgl hb2.size
  have HO0 : Hid (OwnF (w2.alloc (.cells #[] 48)) w2.heap.size (.slice (some ⟨w2.heap.size, 0, none⟩) 0 0) []) := World.ownsRow_made w2 #[] 0 (Nat.le_refl _) (Nat.zero_le _) (by simp)
  have HB0 : Hid (Below w2.heap.size w2 (w2.alloc (.cells #[] 48))) := (Below.refl _ _).alloc (Nat.le_refl _) _
  clear hb2 HID HRN HFA hgl
  go_wp2_with fail
  go_loopw [7, 37] (fun rv i wr => ∃ (k : Nat), k ≤ us.length ∧ i = .int .i64 k ∧ OwnF wr w2.heap.size rv (restF us nm k) ∧ rv ≠ .slice none 0 0 ∧ Below w2.heap.size w2 wr) (fun _ i _ => us.length - (intOf i).toNat)
  case atStart => exact ⟨0, Nat.zero_le _, rfl, HO0.out, by simp, HB0.out⟩
  case round =>
    obtain ⟨k, hk, rfl, hown, hnn, hbr⟩ := hrel
    have HO := hidM hown
    have HNN := hidM hnn
    have HB := hidM hbr
    have hsz := hbr.size
    clear hown hnn hbr HO0 HB0
    by_cases hlt : k < us.length
    · have kk : (k : Int) < (us.length : Int) := by omega
      have hc := HFA2.out.below HB.out hgl2 k hlt
      have c1 := hc.1
      have c2 := hc.2
      rw [Nat.zero_add] at c1 c2
      clear hc
      have HRX := hidM (restF_next us nm k hlt)
      have HRL := hidM (restF_len us nm k)
      have HPU : Hid (∀ W v, W.ownsRow w2.heap.size 48 2 v ((restF us nm k).length + 1) (flatF (restF us nm k) ++ [.string us[k].1, .string us[k].2]) → OwnF W w2.heap.size v (restF us nm k ++ [us[k]])) := fun W v h => OwnF.push h
      generalize restF us nm k = RK at *
      generalize us[k].1 = P at *
      generalize us[k].2 = Dd at *
      generalize us[k] = Fk at *
      obtain ⟨L, hL⟩ : ∃ L, L = RK.length := ⟨_, rfl⟩
      have HO2 : Hid (wr.ownsRow w2.heap.size 48 2 u7 L (flatF RK)) := by
        have := HO.out
        unfold OwnF at this
        rwa [← hL] at this
      rw [← hL] at HPU
      have hLL : L ≤ 40 := by have := HRL.out; omega
      generalize flatF RK = FL at *
      cases he : (P.toList == nm.toList) with
      | true =>
        have HR2 : Hid (restF us nm (k + 1) = RK) := by unfold Hid; rw [HRX.out, he, if_pos rfl, List.append_nil]
        clear HRX HPU hL HRL
        go_wp2_with fail
        go_roundw
        case rel => exact ⟨k + 1, by omega, by go_num, by rw [HR2.out]; exact HO.out.below ((Below.refl _ _).alloc (Nat.le_refl _) _), HNN.out, HB.out.alloc hsz _⟩
        case measure => (show us.length - ((k : Int) + 1).toNat < us.length - ((k : Int)).toNat); omega
      | false =>
        have HR2 : Hid (restF us nm (k + 1) = RK ++ [Fk]) := by unfold Hid; rw [HRX.out, he, if_neg (by decide)]
        clear HRX hL HRL HO
        go_wp2_with (first
          | (at_builtin; refine wpList_append_own _ rfl _ _ 22 rfl w2.heap.size 48 i0 (.agg #[.string .empty, .string .empty]) 2 32 Tryz.underlying22 hi hz0 hz1' hz2' rfl (by decide) _ _ _ rfl (World.ownsRow.alloc (World.ownsRow.alloc HO2.out _) _) ⟨wr.heap.size + 1, 0, none⟩ 1 1 [.string P, .string Dd] ?p0 rfl ?p1 ?p2 ?p3 ?p4 ?p5 ?_))
        case p0 => rfl
        case p1 =>
          intro j u hj
          rw [Addr.add_lit]
          have hq := World.cell?_alloc_mark (wr.alloc (.cells #[.string P, .string Dd] 48)) #[.string P, .string Dd] 48 (0, 0) (0 + j)
          rw [show (wr.alloc (.cells #[.string P, .string Dd] 48)).heap.size = wr.heap.size + 1 by simp] at hq
          rw [hq, Nat.zero_add]
          simpa using hj
        case p2 =>
          intro u hu
          simp only [List.mem_cons, List.not_mem_nil, or_false] at hu
          rcases hu with rfl | rfl <;> rfl
        case p3 => unfold maxLen; omega
        case p4 => omega
        case p5 => simp; omega
        intro v' w3 hown' hgrow _
        have HO3 := hidM (HPU.out w3 v' hown')
        have HB3 : Hid (Below w2.heap.size w2 w3) := ((HB.out.alloc hsz _).alloc (by simp; omega) _).grown hgrow (by simp; omega) (fun j hj => (World.ownsRow.lt HO2.out j hj).1)
        clear hown' hgrow
        go_wp2_with fail
        go_roundw
        case rel => exact ⟨k + 1, by omega, by go_num, by rw [HR2.out]; exact HO3.out, HO3.out.nonnil (by simp), HB3.out⟩
        case measure => (show us.length - ((k : Int) + 1).toNat < us.length - ((k : Int)).toNat); omega
    · obtain rfl : k = us.length := by omega
      obtain ⟨g2, c2, rfl, hg2, hgl3, hfa3⟩ := HO.out.slice HNN.out
      have HRM : Hid (∀ f ∈ restF us nm us.length, f ∈ us ∧ f.1 ≠ nm) := fun f hf => restF_mem hf
      have hrl := restF_len us nm us.length
      have hrz := sizeF_bound (restF us nm us.length) 3000 (fun f hf => HZ.out f (HRM.out f hf).1)
      generalize restF us nm us.length = RS at *
      have HNW := hidM (new_any g2 0 c2 RS wr hgl3 hfa3 (by omega) (by omega))
      have HGB := hidM (HB2.out.trans (HB.out.mono HB2.out.size))
      obtain ⟨L, hL⟩ : ∃ L, L = RS.length := ⟨_, rfl⟩
      have hLL : L ≤ 40 := by omega
      have HO2 : Hid (wr.ownsRow w2.heap.size 48 2 (.slice (some ⟨g2, 0, none⟩) L c2) L (flatF RS)) := by
        have := HO.out
        unfold OwnF at this
        rwa [← hL] at this
      obtain ⟨IDN, hIDN⟩ : ∃ IDN, id ++ (⟨#[10]⟩ : ByteArray) = IDN := ⟨_, rfl⟩
      have lid : IDN.data.toList = id.data.toList ++ [10] := by rw [← hIDN, ByteArray.data_append, Array.toList_append]
      have zid : IDN.size = 41 := by rw [← sl_len, lid, List.length_append, sl_len]; simp; omega
      have n1 : ¬ (9223372036854775807 : Nat) < id.size + 1 := by omega
      have HPU : Hid (∀ W v, W.ownsRow w2.heap.size 48 2 v (L + 1) (flatF RS ++ [.string nm, .string IDN]) → OwnF W w2.heap.size v (RS ++ [(nm, IDN)])) := fun W v h => OwnF.push (by rw [← hL]; exact h)
      rw [← hL] at HNW ⊢
      have HSZ : Hid (sizeF (RS ++ [(nm, IDN)]) ≤ 200000 ∧ (RS ++ [(nm, IDN)]).length = L + 1 ∧ ∀ f ∈ RS ++ [(nm, IDN)], f.2.size ≤ 3000) := by
        refine ⟨?_, by rw [List.length_append, hL]; rfl, ?_⟩
        · have : sizeF (RS ++ [(nm, IDN)]) = sizeF RS + IDN.size := by unfold sizeF; simp
          omega
        · intro f hf
          rcases List.mem_append.1 hf with hf | hf
          · exact HZ.out f (HRM.out f hf).1
          · obtain rfl := List.mem_singleton.1 hf
            show IDN.size ≤ 3000; omega
      have HRZ : Hid (∀ f ∈ RS, f.2.size ≤ 3000) := fun f hf => HZ.out f (HRM.out f hf).1
      have HLI := hidM lid
      generalize hFL : flatF RS = FL at *
      clear hrz hfa3 HO HNN HZ lid zid hFL hL
      go_wp2_with fail
      refine HNW.out.mono ?_
      rintro _ w3 ⟨hp3, hb3⟩
      obtain ⟨p3, n3, rfl, hn3⟩ := new_two hp3
      have HP3 := hidM hn3
      have HB3 := hidM (HGB.out.trans (hb3.mono HGB.out.size))
      have HO3 : Hid (w3.ownsRow w2.heap.size 48 2 (.slice (some ⟨g2, 0, none⟩) L c2) L FL) := HO2.out.kept (below_none hb3) (.inr (by simp [Value.ownBlock]))
      have hb3s := hb3.size
      have hwr2 : w2.heap.size ≤ wr.heap.size := HB.out.size
      have hw2 := HB2.out.size
      have HW3 := hidM hb3
      clear hp3 hn3 hb3 HNW HO2
      go_wp2_with (first
        | (at_builtin; refine wpList_append_own _ rfl _ _ 22 rfl w2.heap.size 48 i0 (.agg #[.string .empty, .string .empty]) 2 32 Tryz.underlying22 hi hz0 hz1' hz2' rfl (by decide) _ _ _ rfl (World.ownsRow.alloc HO3.out _) ⟨w3.heap.size, 0, none⟩ 1 1 [.string nm, .string IDN] ?e0 rfl ?e1 ?e2 ?e3 ?e4 ?e5 ?_))
      case e0 => rfl
      case e1 =>
        intro j u hj
        rw [Addr.add_lit, World.cell?_alloc_mark w3 _ 48 (0, 0) (0 + j), Nat.zero_add]
        simpa using hj
      case e2 =>
        intro u hu
        simp only [List.mem_cons, List.not_mem_nil, or_false] at hu
        rcases hu with rfl | rfl <;> rfl
      case e3 => unfold maxLen; omega
      case e4 => omega
      case e5 => simp; omega
      intro v4 w4 hown4 hgrow4 _
      have HO4 := hidM (HPU.out w4 v4 hown4)
      have HB4 : Hid (Below w.heap.size w w4) := (HB3.out.alloc HB3.out.size _).grown hgrow4 (by have := HB3.out.size; simp; omega) (fun j hj => by cases hj; show w.heap.size ≤ g2; omega)
      have HFK : Hid (∀ gs q b c, Folder w3 q b 0 c gs → wr.heap.size ≤ q → wr.heap.size ≤ b → Folder w4 q b 0 c gs) := fun gs q b c h h1 h2 =>
        Folder.kept (h.below ((Below.refl _ _).alloc (Nat.le_refl _) _)) hgrow4 (by simp [Value.ownBlock]; omega) (by simp [Value.ownBlock]; omega)
      obtain ⟨g4, c4, rfl, hg4, hgl4, hfa4⟩ := HO4.out.files (by simp)
      have hs1 := HSZ.out.1
      have hs2 := HSZ.out.2.1
      have HNW4 := hidM (new_any g4 0 c4 (RS ++ [(nm, IDN)]) w4 hgl4 hfa4 (by omega) (by omega))
      rw [hs2] at HNW4 ⊢
      clear hown4 hgrow4 hfa4 hs1 hs2 HO4 HO3
      go_wp2_with fail
      refine HNW4.out.mono ?_
      rintro _ w5 ⟨hp5, hb5⟩
      obtain ⟨p5, n5, rfl, hn5⟩ := new_two hp5
      have HP5 := hidM hn5
      have HB5 := hidM (HB4.out.trans (hb5.mono HB4.out.size))
      have HW5 := hidM hb5
      clear hp5 hn5 hb5 HNW4
      rcases HP3.out with ⟨hn3, rfl⟩ | ⟨rfl, gs, q, b, c, hpm, hrs, hfo, hq, hbb, rfl⟩
      · clear HP3 HP5
        rcases hn3 with rfl | rfl
        all_goals
          go_wp2_with fail
          refine (HAW.out _ HB5.out).mono ?_
          rintro _ w6 ⟨rfl, hb6⟩
          have HB6 := hidM (HB5.out.trans (hb6.mono HB5.out.size))
          clear hb6
          go_wp2_with fail
          go_ret
          exact ⟨rfl, HB6.out⟩
      rcases HP5.out with ⟨hn5, rfl⟩ | ⟨rfl, gt, q5, b5, c5, hpm5, hrs5, hfo5, _,_, rfl⟩
      · clear HP3 HP5
        rcases hn5 with rfl | rfl
        all_goals
          go_wp2_with fail
          refine (HAW.out _ HB5.out).mono ?_
          rintro _ w6 ⟨rfl, hb6⟩
          have HB6 := hidM (HB5.out.trans (hb6.mono HB5.out.size))
          clear hb6
          go_wp2_with fail
          go_ret
          exact ⟨rfl, HB6.out⟩
      have HFS := hidM ((HFK.out gs q b c hfo hq hbb).below HW5.out)
      have hgl : gs.length ≤ 2000 := by rw [hpm.length_eq]; omega
      have hgl5 : gt.length ≤ 2000 := by rw [hpm5.length_eq, HSZ.out.2.1]; omega
      have HGZ : Hid (∀ f ∈ gs, f.2.size ≤ 4194304) := fun f hf => by have := HRZ.out f (hpm.mem_iff.1 hf); omega
      have HGZ5 : Hid (∀ f ∈ gt, f.2.size ≤ 4194304) := fun f hf => by have := HSZ.out.2.2 f (hpm5.mem_iff.1 hf); omega
      have HTX := hidM (shadow_text hpm hpm5 hrs.apart hrs5.apart HNM.out)
      have HGT := hidM (shadow_get hpm5 hrs5.apart)
      have HGS := hidM (shadow_none hpm (fun f hf => (HRM.out f hf).2))
      have HO5 := hidM (open_any q b 0 c gs m w5 HFS.out hrs hgl HGZ.out (HG.out.below HB5.out))
      have HO6 := hidM (fun W (hW : Below w5.heap.size w5 W) hG => open_any q5 b5 0 c5 gt m W (hfo5.below hW) hrs5 hgl5 HGZ5.out hG)
      clear HP3 HP5 hpm hrs hfo hq hbb hpm5 hrs5 hfo5 HFK hgl hgl5 HGZ HGZ5 HFS HSZ HRZ HRM HPU
      go_wp2_with fail
      refine HO5.out.mono ?_
      rintro _ w6 ⟨hp6, hb6⟩
      have HP6 := hidM hp6
      have HB6 := hidM (HB5.out.trans (hb6.mono HB5.out.size))
      have HW6 := hidM hb6
      clear hp6 hb6 HO5
      have hp6 := HP6.out
      unfold OpenPost at hp6
      generalize hPA : parsed (textL gs) = PA at *
      obtain ⟨er, rows⟩ := PA
      simp only at hp6
      have HPA := hidM hPA
      clear hPA HP6
      rcases hp6 with ⟨hne, rfl⟩ | ⟨h00, r, mb, _, hR, rfl⟩
      · have HO7 := hidM (HO6.out w6 HW6.out (HG.out.below HB6.out))
        obtain ⟨li, hli⟩ : ∃ li : Int, li = (er : Int) := ⟨_, rfl⟩
        have hne3 : ¬ li = 0 := by rw [hli]; omega
        have HLI2 := hidM hli
        have HNE := hidM hne
        rw [← hli]
        clear hli hne HO6
        go_wp2_with fail
        refine HO7.out.mono ?_
        rintro _ w7 ⟨hp7, hb7⟩
        have HB7 := hidM (HB6.out.trans (hb7.mono HB6.out.size))
        unfold OpenPost at hp7
        rw [HTX.out, HPA.out] at hp7
        simp only at hp7
        rcases hp7 with ⟨_, rfl⟩ | ⟨h0, _⟩
        · rw [← HLI2.out]
          clear hb7 HO7 HLI2 HNE HB6
          go_wp2_with fail
          refine (HAW.out _ HB7.out).mono ?_
          rintro _ w8 ⟨rfl, hb8⟩
          have HB8 := hidM (HB7.out.trans (hb8.mono HB7.out.size))
          clear hb8
          go_wp2_with fail
          go_ret
          refine ⟨?_, HB8.out⟩
          show Ending.returned (.bool (li != 0)) = _
          rw [show (li != 0) = true by simpa using hne3]
        · exact absurd h0 HNE.out
      · have HR6 := hidM hR
        have H00 := hidM h00
        have HO7 := hidM (HO6.out w6 HW6.out (HG.out.below HB6.out))
        clear hR HO6 h00
        go_wp2_with fail
        refine HO7.out.mono ?_
        rintro _ w7 ⟨hp7, hb7⟩
        have HB7 := hidM (HB6.out.trans (hb7.mono HB6.out.size))
        have HR7 := hidM (HR6.out.below hb7)
        unfold OpenPost at hp7
        rw [HTX.out, HPA.out] at hp7
        simp only at hp7
        rcases hp7 with ⟨hx, _⟩ | ⟨_, r2, mb2, _, hR2, rfl⟩
        · exact absurd H00.out hx
        have HS7 := hidM hR2
        have HL7 := hidM (lookup_any r2 b5 0 c5 mb2 gt rows nm m w7 hR2 (HG.out.below HB7.out))
        rw [shadow_look HNM.out (by rw [HGT.out, HLI.out]) (shadow_read HI.out), pair_out, mkB_of] at HL7
        have hnz : nm.size ≤ 200 := by rw [← sl_len]; exact name_size HNM.out
        clear hb7 HO7 hR2 HR6 HB6 HW6
        go_wp2_with fail
        refine HL7.out.mono ?_
        rintro _ w8 ⟨rfl, hb8⟩
        have HB8 := hidM (HB7.out.trans (hb8.mono HB7.out.size))
        have HR8 := hidM (HR7.out.below hb8)
        have HS8 := hidM (HS7.out.below hb8)
        have HL8 := hidM (lookup_any r b 0 c mb gs rows nm m w8 HR8.out (HG.out.below HB8.out))
        rw [pair_out] at HL8
        clear hb8 HL7 HR7 HS7 HB7
        rcases shadow_other (rows := rows) HNM.out HGS.out with ⟨rr, hrr, hrn, hlk⟩ | hlk
        · rw [hlk] at HL8
          have HRR := hidM hrr
          have HRNN := hidM hrn
          have e1 : nm.toList.isEmpty = false := by
            rw [ByteArray.toList_eq]
            cases hq : nm.data.toList with
            | nil => exact absurd hq (name_ne HNM.out)
            | cons a t => rfl
          clear hlk hrr hrn
          generalize mkB (0, rr.id).2 = RID at *
          go_wp2_with fail
          refine HL8.out.mono ?_
          rintro _ w9 ⟨rfl, hb9⟩
          have HB9 := hidM (HB8.out.trans (hb9.mono HB8.out.size))
          have HR9 := hidM (HR8.out.below hb9)
          have HS9 := hidM (HS8.out.below hb9)
          clear hb9 HL8 HR8 HS8 HB8
          go_wp2_with fail
          refine (HAW.out _ HB9.out).mono ?_
          rintro _ wa ⟨rfl, hba⟩
          have HBa := hidM (HB9.out.trans (hba.mono HB9.out.size))
          have HRa := hidM (HR9.out.below hba)
          have HPE := hidM (peeled_any r2 b5 0 c5 mb2 gt rows nm wa (HS9.out.below hba) (by omega))
          rw [shadow_peel HGT.out, show mkB [] = ByteArray.empty from rfl] at HPE
          have e9 : ByteArray.empty.toList.isEmpty = true := by rw [ByteArray.toList_eq]; rfl
          clear hba HR9 HS9 HB9
          go_wp2_with fail
          refine HPE.out.mono ?_
          rintro _ wb ⟨rfl, hbb2⟩
          have HBb := hidM (HBa.out.trans (hbb2.mono HBa.out.size))
          have HNN2 := hidM (names_any r b 0 c mb gs rows nm m wb (HRa.out.below hbb2) (HG.out.below HBb.out))
          clear hbb2 HPE HBa HRa
          go_wp2_with fail
          refine HNN2.out.mono ?_
          rintro _ wc ⟨⟨vl, l, rfl, hsv, hll, _, hme⟩, hbc⟩
          have HBc := hidM (HBb.out.trans (hbc.mono HBb.out.size))
          have hpos : 0 < l.length := List.length_pos_iff.2 (fun e => by
            have : nm ∈ l := (hme nm).2 ⟨.inr ⟨rr, HRR.out, by rw [HRNN.out, mkB_of]⟩, pre_self _⟩
            rw [e] at this; cases this)
          have hpos2 : (0 : Int) < (l.length : Int) := by omega
          obtain ⟨al, cl, rfl, _⟩ := hsv
          clear hme hbc hll
          generalize l.length = ln at *
          go_wp2_with fail
          go_ret
          exact ⟨rfl, HBc.out⟩
        · rw [hlk] at HL8
          clear hlk
          go_wp2_with fail
          refine HL8.out.mono ?_
          rintro _ w9 ⟨rfl, hb9⟩
          have HB9 := hidM (HB8.out.trans (hb9.mono HB8.out.size))
          have HS9 := hidM (HS8.out.below hb9)
          clear hb9 HL8 HR8 HS8 HB8
          go_wp2_with fail
          refine (HAW.out _ HB9.out).mono ?_
          rintro _ wa ⟨rfl, hba⟩
          have HBa := hidM (HB9.out.trans (hba.mono HB9.out.size))
          have HPE := hidM (peeled_any r2 b5 0 c5 mb2 gt rows nm wa (HS9.out.below hba) (by omega))
          rw [shadow_peel HGT.out, show mkB [] = ByteArray.empty from rfl] at HPE
          have e9 : ByteArray.empty.toList.isEmpty = true := by rw [ByteArray.toList_eq]; rfl
          clear hba HS9 HB9
          go_wp2_with fail
          refine HPE.out.mono ?_
          rintro _ wb ⟨rfl, hbb2⟩
          have HBb := hidM (HBa.out.trans (hbb2.mono HBa.out.size))
          clear hbb2 HPE HBa
          go_wp2_with fail
          go_ret
          exact ⟨rfl, HBb.out⟩
end Go.Proofs.YtjoomlpocpdonaaGreatDoor
namespace Go.Proofs.YtjoomlpocpdonaaGreatDoor
open Go.ChangeShapes Go.WideShapes Go.WideMaps Go.WideElems

def MI (w : World) : Prop := ∃ m, w.cell? ⟨0, 0, none⟩ = some (.int .i64 m)
theorem mi_of_open {w : World} (h : w.ShapedOpen Tryz.prog) : MI w :=
  cell_of_shapedOpen_int (P := Tryz.prog) (g := 0) (t := 3) (zero := #[.int .i64 0]) (k := .i64) h (of_decide_eq_true (by kernel_rfl)) (by kernel_rfl) rfl (by kernel_rfl) (by kernel_rfl) (by kernel_rfl)

theorem handed_open {H : Type} {enc : TypeId × Value → H} {a : Assume} {C : Checked} {os : Os} {f : FuncId} {fn : Func} {s : ChangeSpec} {conds : List PathCond} {apart fresh handsOn again : Bool} {X : World → Array Value → Prop}
    (hX : ∀ (w w' : World) (args : Array Value), w.heap = w'.heap → X w args → X w' args)
    (own : ownKnob C.prog.godebug = none) (started : os.Started) (noInit : C.prog.inits.idxOf? f = none) (hfn : C.prog.funcs[f]? = some fn)
    (wit : ∃ (w : World) (tape : Tape) (i : Input), w.os = os ∧ (w.forCall tape i).Shaped C.prog ∧ i.vars = [] ∧ Input.okWide C.prog (w.forCall tape i) .any w.heap.size f i ∧
      ((s.pre enc C.prog fn conds apart (w.forCall tape i).memory i.args ∧ X (w.forCall tape i).memory i.args) ∧ sizedMet enc C.prog fn (OpenSpec.ofChange s) apart (w.forCall tape i).memory i.args) ∧ a.holds C.prog (lone (Frame.enter C.prog f i.args .normal) [] (w.forCall tape i)))
    (K : ∀ (W : World) (base : Nat) (args : Array Value) (ds gs : List (DataW H)) (before : List MemPlace), W.ShapedOpen C.prog →
      (∀ (j : Nat) t v, fn.params[j]? = some t → args[j]? = some v → Value.okWide C.prog W .any base t v) →
      DataW.Whole enc C.prog fn.params.toList s.vars apart W args.toList ds gs before →
      conds.all (PathCond.test C.prog ⟨fn.params.toList, ds, s.plain.varTypes C.prog, gs⟩) = true →
      (DataW.weightsEach C.prog (fn.params.toList ++ s.plain.varTypes C.prog) (ds ++ gs)).all (· ≤ reachBytes) = true → X W args →
      Calls C.prog f args W fun e W' => ∃ v, e = .returned v ∧ s.post enc C.prog fn apart fresh handsOn again W args v W') :
    ReturnsInHanded a C os f .any (fun w args => (s.pre enc C.prog fn conds apart w args ∧ X w args) ∧ sizedMet enc C.prog fn (OpenSpec.ofChange s) apart w args) (s.post enc C.prog fn apart fresh handsOn again) := by
  refine returnsInHanded_of_calls own started noInit wit fun w tape i _ hso _ hok hpre _ => ?_
  obtain ⟨_,_,_, g, hg, _,_,_,_, hval⟩ := hok
  obtain rfl : g = fn := Option.some.inj (hg.symm.trans hfn)
  obtain ⟨⟨⟨ds, gs, before, hw, hc⟩, hx⟩, hz⟩ := hpre
  refine (K (w.forCall tape i) w.heap.size i.args ds gs before hso hval (DataW.Whole.of_heap (w' := w.forCall tape i) (by rfl) hw) hc (hz.weights hw) (hX _ _ _ (by rfl) hx)).mono fun e W' ⟨v, he, hp⟩ => ?_
  subst he
  exact ChangeSpec.post_blind hp
end Go.Proofs.YtjoomlpocpdonaaGreatDoor
namespace Go.Proofs.YtjoomlpocpdonaaGreatDoor
open Go.ChangeShapes Go.WideShapes Go.RowKit
theorem cells32 : Tryz.prog.cellsOf 48 = 2 := by kernel_rfl
theorem cells9' : Tryz.prog.cellsOf 9 = 1 := by kernel_rfl
theorem weightsAll_mem {H : Type} {P : Program} {e : TypeId} {l : List (DataW H)} {d : DataW H} (h : d ∈ l) {n : Nat} (hn : n ∈ d.weights P e) : n ∈ DataW.weightsAll P e l := by
  induction l with
  | nil => cases h
  | cons x l ih =>
    rw [DataW.weightsAll, List.mem_append]
    rcases List.mem_cons.1 h with rfl | h
    · exact .inl hn
    · exact .inr (ih h)
set_option maxRecDepth 100000 in
theorem open_files {H : Type} {enc : TypeId × Value → H} {W : World} {v : Value} {d : DataW H} {p : List MemPlace} {ts : List TypeId} {ds : List (DataW H)} {j : Nat} (hv1 : v.cells.toList = [v])
    (hw : (DataW.weightsEach Tryz.prog ts ds).all (· ≤ reachBytes) = true) (htj : ts[j]? = some 22) (hdj : ds[j]? = some d)
    (h : DataW.Trod enc Tryz.prog W 0 (fun _ => true) true 22 v d p) :
    ∃ fs, FilesV W v fs ∧ ∀ f ∈ fs, f.1.size ≤ 140737488355328 ∧ f.2.size ≤ 140737488355328 := by
  obtain ⟨fuel, hf⟩ := h
  rcases Deep.open_slice_pairs Tryz.underlying22 Tryz.underlying48 cells32 rfl rfl cells9' cells9' hf with ⟨h0, _⟩ | ⟨a, len, cap, m, n, V0, V1, D0, D1, P0, P1, h0, _, hlc, _, hm, hx, hall⟩
  · rw [hv1] at h0
    exact ⟨[], .inl ⟨by simpa using h0, rfl⟩, fun f hf => by cases hf⟩
  · rw [hv1] at h0
    have hv : v = .slice (some a) len cap := by simpa using h0
    by_cases hl : len = 0
    · subst hl
      exact ⟨[], .inr (.inl ⟨a, cap, hv, rfl⟩), fun f hf => by cases hf⟩
    · have hlm : len ≤ m := by rw [hm]; split <;> omega
      have each : ∀ i, i < len → ∃ f : FileB, W.cell? (a.add (i * 2)) = some (.string f.1) ∧ W.cell? (a.add (i * 2 + 1)) = some (.string f.2) ∧ f.1.size ≤ 140737488355328 ∧ f.2.size ≤ 140737488355328 := by
        intro i hi
        obtain ⟨c0, c1, t0, t1⟩ := hall i (by omega)
        obtain ⟨b0, e0, g0, _⟩ := DataW.trod_string Tryz.underlying9 t0
        obtain ⟨b1, e1, g1, _⟩ := DataW.trod_string Tryz.underlying9 t1
        simp only [List.cons.injEq, and_true] at e0 e1
        rw [e0] at c0
        rw [e1] at c1
        have hd : d = .slice ((List.range len).map fun i => .agg [D0 i, D1 i]) ((List.range (m - len)).map fun j => .agg [D0 (len + j), D1 (len + j)]) := congrArg Prod.fst hx
        have hmem : ∀ k, k ∈ (DataW.agg [D0 i, D1 i]).weights Tryz.prog 48 → k ≤ reachBytes := fun k hk => by
          have h1 : k ∈ d.weights Tryz.prog 22 := by
            rw [hd]
            simp only [DataW.weights, Tryz.underlying22]
            refine List.mem_cons_of_mem _ (List.mem_append.2 (.inl (weightsAll_mem (d := .agg [D0 i, D1 i]) (List.mem_map.2 ⟨i, List.mem_range.2 hi, rfl⟩) hk)))
          simpa using List.all_eq_true.1 hw _ (DataW.weights_mem_each htj hdj k h1)
        have k0 : D0 i = .lit (.string b0.data.toList) := congrArg Prod.fst g0
        have k1 : D1 i = .lit (.string b1.data.toList) := congrArg Prod.fst g1
        have s0 := hmem b0.size (by rw [Lib.size_eq]; simp [DataW.weights, DataW.weightsEach, Tryz.underlying48, k0])
        have s1 := hmem b1.size (by rw [Lib.size_eq]; simp [DataW.weights, DataW.weightsEach, Tryz.underlying48, k1])
        unfold reachBytes at s0 s1
        exact ⟨(b0, b1), c0, c1, (by show b0.size ≤ _; omega), (by show b1.size ≤ _; omega)⟩
      obtain ⟨F, hF⟩ := Deep.choose_lt each
      have ha : ∃ b off, a = ⟨b, off, none⟩ := by
        obtain ⟨c0, _⟩ := hF 0 (by omega)
        rcases a with ⟨b, off, x⟩
        cases x with
        | none => exact ⟨b, off, rfl⟩
        | some y =>
          simp [World.cell?, Addr.add] at c0
          split at c0 <;> cases c0
      obtain ⟨b, off, rfl⟩ := ha
      have hlen : ((List.range len).map F).length = len := by simp
      refine ⟨(List.range len).map F, .inr (.inr ⟨b, off, cap, by rw [hlen]; exact hv, ?_, by rw [hlen]; exact hlc⟩), ?_⟩
      · intro i hi
        rw [hlen] at hi
        obtain ⟨c0, c1, _⟩ := hF i hi
        simp only [List.getElem_map, List.getElem_range]
        rw [Addr.add_lit] at c0 c1
        exact ⟨c0, by rw [← Nat.add_assoc] at c1; exact c1⟩
      · intro f hf
        obtain ⟨i, hi, rfl⟩ := List.mem_map.1 hf
        exact (hF i (List.mem_range.1 hi)).2.2
end Go.Proofs.YtjoomlpocpdonaaGreatDoor
namespace Go.Proofs.YtjoomlpocpdonaaGreatDoor
open Go.ChangeShapes Go.WideShapes Go.ChangeAt Go.WideMaps Go.WideElems Go.RowKit

def laidT : List (String × DataW Unit) := [("unicode/utf8.acceptRanges", Rows.laid_unicode_utf8_acceptRanges), ("unicode/utf8.first", Rows.laid_unicode_utf8_first)]
theorem own : ownKnob Tryz.prog.godebug = none := by kernel_rfl
theorem laidOut : laidOutB Tryz.prog = true := by kernel_rfl
theorem laidT_met (os : Os) (args : Array Value) : laidMetH Tryz.prog laidT ((World.laidAll Tryz.prog os laidT).forCall (fun _ _ => 0) ⟨#[], args, []⟩).memory := by
  rw [MakeChecks.laidMetH_plain _ _ _ (by kernel_rfl)]; exact laidMet_laidAll _ (by kernel_rfl) (by kernel_rfl)
end Go.Proofs.YtjoomlpocpdonaaGreatDoor
