/-
  Rows of files of the law's own; two objects held against each other.
  The law LooseOnly, walked.
  A slice of files that was handed in, opened.
-/
import Derived.Test.YtddoemeellbhaaaGreatDoorJLoC
import Derived.Test.YtddoemeellbhaaaGreatDoorJTxtB
import Derived.Laws.StructEq
import Derived.Test.YtddoemeellbhaaaGreatDoorJSnapL
import Derived.Deep.SlicePairs
import Derived.SizedLaws
import Derived.ShutString
namespace Go.Proofs.YtddoemeellbhaaaGreatDoor
open Go.RowKit

def flatF : List FileB → List Value
  | [] => []
  | f :: fs => .string f.1 :: .string f.2 :: flatF fs
theorem flatF_len (fs : List FileB) : (flatF fs).length = fs.length * 2 := by
  induction fs with
  | nil => rfl
  | cons f fs ih => simp only [flatF, List.length_cons, ih]; omega
theorem flatF_app (a b : List FileB) : flatF (a ++ b) = flatF a ++ flatF b := by
  induction a with
  | nil => rfl
  | cons f a ih => simp [flatF, ih]
theorem flatF_at (fs : List FileB) : ∀ i (h : i < fs.length), (flatF fs)[i * 2]? = some (.string fs[i].1) ∧ (flatF fs)[i * 2 + 1]? = some (.string fs[i].2) := by
  induction fs with
  | nil => intro i hi; cases hi
  | cons f fs ih =>
    intro i hi
    cases i with
    | zero => exact ⟨rfl, rfl⟩
    | succ i =>
      have h := ih i (by simpa using hi)
      rw [show (i + 1) * 2 = i * 2 + 1 + 1 by omega]
      simp only [flatF, List.getElem?_cons_succ, List.getElem_cons_succ]
      exact h
/-- files in a row that the call has made -/
def OwnR (V : World) (B : Nat) (v : Value) (fs : List FileB) : Prop := V.ownsRow B 48 2 v fs.length (flatF fs) ∧ v ≠ .slice none 0 0
theorem OwnR.shape {V : World} {B : Nat} {v : Value} {fs : List FileB} (h : OwnR V B v fs) : ∃ g cap, v = .slice (some ⟨g, 0, none⟩) fs.length cap ∧ fs.length ≤ cap ∧ B ≤ g ∧ g < V.heap.size ∧ FilesAt V g 0 fs := by
  rcases h.1.2 with ⟨hn, _⟩ | ⟨g, cap, cur, rfl, hbase, hbk, h1, h2, h3, h4⟩
  · exact absurd hn h.2
  · refine ⟨g, cap, rfl, h1, hbase, (Array.getElem?_eq_some_iff.1 hbk).1, fun i hi => ?_⟩
    obtain ⟨f0, f1⟩ := flatF_at fs i hi
    have hc : ∀ j u, (flatF fs)[j]? = some u → V.cell? ⟨g, 0 + j, none⟩ = some u := fun j u hj => by
      have := World.ownsRow.cells h.1 (g := g) rfl j u hj
      rw [Addr.add_lit] at this
      exact this
    exact ⟨hc _ _ f0, by rw [Nat.add_assoc]; exact hc _ _ f1⟩
theorem OwnR.more {V : World} {B : Nat} {v : Value} {fs : List FileB} {f : FileB} (h : V.ownsRow B 48 2 v (fs.length + 1) (flatF fs ++ [.string f.1, .string f.2])) (hn : v ≠ .slice none 0 0) : OwnR V B v (fs ++ [f]) := by
  refine ⟨?_, hn⟩
  rw [flatF_app, List.length_append]
  exact h
theorem OwnR.below {V W : World} {B : Nat} {v : Value} {fs : List FileB} (h : OwnR V B v fs) (hb : Below V.heap.size V W) : OwnR W B v fs :=
  ⟨h.1.kept (row := none) ⟨hb.os, hb.tape, hb.output, hb.size, fun k hk _ => hb.block k hk⟩ (by
    cases v.ownBlock with
    | none => exact .inl rfl
    | some k => exact .inr (by simp)), h.2⟩
theorem cell_new2L {W : World} {B : Nat} (hB : W.heap.size = B) (u v : Value) : ∀ j y, [u, v][j]? = some y → (W.alloc (.cells #[u, v] 48)).cell? ((⟨B, 0, none⟩ : Addr).add j) = some y := by
  subst hB
  intro j y hj
  rcases j with _ | _ | j
  · simp at hj; subst hj; rw [Addr.add_lit]; simp
  · simp at hj; subst hj; rw [Addr.add_lit]; simp
  · simp at hj
theorem held32 : Tryz.prog.stoodInHeld 32 = false := by kernel_rfl
theorem guard32 : Tryz.prog.eqGuardType Tryz.prog.depth 32 = false := by kernel_rfl
theorem struct32 : Tryz.prog.underlying 32 = some (.struct (Tryz.prog.fieldsOf 32)) := by kernel_rfl
theorem fields32 : (Tryz.prog.fieldsOf 32).toList.map (fun f => (f.name, f.type, f.offset)) = [("Kind", 3, 0), ("Data", 9, 1)] := by kernel_rfl
theorem equal32 (m1 : Int) (n1 : ByteArray) (w : World) :
    (Op.equalIn 10000 32 (.agg #[.int .i64 m1, .string n1]) (.agg #[.int .i64 m1, .string n1])).run Tryz.prog w = .ok true w := by
  rw [run_equalIn_struct w 9999 32 _ _ struct32 held32]
  have hf := fields32
  obtain ⟨f1, f2, he⟩ : ∃ f1 f2, (Tryz.prog.fieldsOf 32).toList = [f1, f2] := by
    generalize (Tryz.prog.fieldsOf 32).toList = fl at hf
    rcases fl with _ | ⟨f1, _ | ⟨f2, _ | ⟨f3, fl⟩⟩⟩
    · simp at hf
    · simp at hf
    · exact ⟨f1, f2, rfl⟩
    · simp at hf
  rw [he] at hf ⊢
  simp only [List.map_cons, List.map_nil, List.cons.injEq, Prod.mk.injEq, and_true] at hf
  obtain ⟨⟨a1, a2, a3⟩, ⟨b1, b2, b3⟩⟩ := hf
  have p1 : ∀ (m : Int) (n : ByteArray) (w : World), (part 3 #[.int .i64 m, .string n] 0).run Tryz.prog w = .ok (.int .i64 m) w := by intro m n w; kernel_rfl
  have p2 : ∀ (m : Int) (n : ByteArray) (w : World), (part 9 #[.int .i64 m, .string n] 1).run Tryz.prog w = .ok (.string n) w := by intro m n w; kernel_rfl
  simp only [Op.eqFields, a1, a2, a3, b1, b2, b3, Sem.run_ite, Sem.run_bind, p1, p2, Result.andThen_ok, ne_eq, String.reduceEq, not_false_eq_true, if_true]
  rw [run_equalIn_int w 9998 3 .i64 .i64 m1 m1 Tryz.underlying3]
  simp only [Result.andThen_ok, beq_self_eq_true, Bool.not_true, Bool.false_eq_true, if_false]
  rw [run_equalIn_string w 9998 9 n1 n1 Tryz.underlying9]
  simp
/-- what is told of files of which those of one path are taken -/
def ownL (us : List FileB) (p : ByteArray) : List FileB := us.filter fun f => decide (f.1 = p)
theorem okF_sub {us os : List FileB} (h : OkF us) (hs : os.Sublist us) : OkF os :=
  ⟨fun f hf => h.1 f (hs.subset hf), h.2.1.sublist hs, fun f hf g hg => h.2.2 f (hs.subset hf) g (hs.subset hg)⟩
theorem sizeF_le400 {us : List FileB} (h : ∀ f ∈ us, f.2.size ≤ 400) : sizeF us ≤ 400 * us.length := by
  induction us with
  | nil => simp [sizeF]
  | cons f us ih =>
    have h1 := h f (by simp)
    have h2 := ih (fun g hg => h g (by simp [hg]))
    unfold sizeF at h2 ⊢
    simp only [List.map_cons, List.sum_cons, List.length_cons]
    omega
theorem apart_eq {us : List FileB} (h : Apart us) {f g : FileB} (hf : f ∈ us) (hg : g ∈ us) (e : f.1 = g.1) : f = g := by
  induction us with
  | nil => cases hf
  | cons x us ih =>
    unfold Apart at h
    rw [List.pairwise_cons] at h
    rcases List.mem_cons.1 hf with hf1 | hf1 <;> rcases List.mem_cons.1 hg with hg1 | hg1
    · rw [hf1, hg1]
    · exact absurd (hf1 ▸ e) (h.1 g hg1)
    · exact absurd (hg1 ▸ e).symm (h.1 f hf1)
    · exact ih h.2 hf1 hg1
theorem ownL_one {us : List FileB} {p : ByteArray} (h : Apart us) {f : FileB} (hf : f ∈ us) (hp : f.1 = p) : (ownL us p).length = 1 := by
  have hm : f ∈ ownL us p := by unfold ownL; rw [List.mem_filter]; exact ⟨hf, decide_eq_true hp⟩
  have ha : Apart (ownL us p) := h.sublist List.filter_sublist
  have hall : ∀ g ∈ ownL us p, g.1 = p := fun g hg => by unfold ownL at hg; rw [List.mem_filter] at hg; exact of_decide_eq_true hg.2
  generalize ownL us p = os at *
  rcases os with _ | ⟨a, _ | ⟨b, os⟩⟩
  · cases hm
  · rfl
  · unfold Apart at ha
    rw [List.pairwise_cons] at ha
    exact absurd ((hall a (by simp)).trans (hall b (by simp)).symm) (ha.1 b (by simp))
/-- the two readings say the same -/
theorem read_same {us gs os : List FileB} {id : ByteArray} {x y : Nat × List UInt8 × Nat} (ha : Apart us) (hg : gs.Perm us) (ho : os.Perm (ownL us (pathB id))) (hi : idB id.data.toList = true) (hx : ReadQ gs id x) (hy : ReadQ os id y) : x = y ∧ (x.2.2 ≠ 7 → (ownL us (pathB id)).length = 1) := by
  rcases hx with ⟨h, _⟩ | ⟨_, h1, rfl⟩ | ⟨_, f, hf, hfp, hq⟩
  · rw [hi] at h; cases h
  · rcases hy with ⟨h, _⟩ | ⟨_, _, rfl⟩ | ⟨_, f', hf', hfp', _⟩
    · rw [hi] at h; cases h
    · exact ⟨rfl, fun h => absurd rfl h⟩
    · have h2 := ho.mem_iff.1 hf'
      unfold ownL at h2
      rw [List.mem_filter] at h2
      exact absurd hfp' (h1 f' (hg.mem_iff.2 h2.1))
  · have hfu := hg.mem_iff.1 hf
    have hone := ownL_one ha hfu hfp
    have hfo : f ∈ os := ho.mem_iff.2 (by unfold ownL; rw [List.mem_filter]; exact ⟨hfu, decide_eq_true hfp⟩)
    rcases hy with ⟨h, _⟩ | ⟨_, h1, _⟩ | ⟨_, f', hf', hfp', hq'⟩
    · rw [hi] at h; cases h
    · exact absurd hfp (h1 f hfo)
    · have h2 := ho.mem_iff.1 hf'
      unfold ownL at h2
      rw [List.mem_filter] at h2
      obtain rfl := apart_eq ha hfu h2.1 (hfp.trans hfp'.symm)
      exact ⟨FilQ.det hq hq', fun _ => hone⟩
theorem read_sure {fs : List FileB} {id : ByteArray} {x : Nat × List UInt8 × Nat} (h : ReadQ fs id x) (h0 : x.2.2 = 0) : idT (x.1 : Nat) x.2.1 = id.data.toList ∧ idB id.data.toList = true := by
  rcases h with ⟨_, rfl⟩ | ⟨_, _, rfl⟩ | ⟨hi, f, hf, hfp, y, hu, ⟨h1, rfl⟩ | ⟨_, _, rfl⟩ | ⟨h1, h2, rfl⟩⟩
  · cases h0
  · cases h0
  · exact absurd h0 h1
  · cases h0
  · exact ⟨h2, hi⟩
theorem idT_good {k : Nat} {d l : List UInt8} (h : idT (k : Nat) d = l) (hl : idB l = true) : l = hexL (sha1L (encL (k : Nat) d)) ∧ d.length ≤ 65000 := by
  unfold idT at h
  by_cases hc : checkE (k : Nat) d.length = 0
  · rw [if_pos hc] at h
    refine ⟨h.symm, ?_⟩
    unfold checkE at hc
    by_cases hn : nameL (k : Nat) = []
    · rw [if_pos hn] at hc; cases hc
    · rw [if_neg hn] at hc
      by_cases hb : 65000 < d.length
      · rw [if_pos hb] at hc; cases hc
      · omega
  · rw [if_neg hc] at h
    subst h
    exact absurd hl (by decide)
end Go.Proofs.YtddoemeellbhaaaGreatDoor
namespace Go.Proofs.YtddoemeellbhaaaGreatDoor
open Go.RowKit

set_option maxHeartbeats 8000000 in
set_option maxRecDepth 100000 in
theorem only_walk (v : Value) (fs : List FileB) (id : ByteArray) (w : World) (hG : LG w) (hV : FilesV w v fs) (hi : id.size ≤ maxLen) :
    Calls Tryz.prog 6 #[v, .string id] w fun e w' => e = .returned (.bool true) ∧ Below w.heap.size w w' := by
  have HG := hidM hG
  have HSH := hidM (short_any v 30 fs w hV (by decide))
  have HS4 : Hid (∀ f ∈ (fs.take 30).map cutF, f.2.size ≤ 400) := fun f hf => by
    obtain ⟨g, _, rfl⟩ := List.mem_map.1 hf
    exact fewS_size _
  have hl30 : ((fs.take 30).map cutF).length ≤ 30 := by rw [List.length_map, List.length_take]; omega
  have HAW := hidM (fun V => lawake_any V)
  have HPA := hidM (fun V => lpath_any id V hi)
  obtain ⟨i0, hi0, hz0, hz1, hz2⟩ := info_parts info32
  clear hG hV
  generalize (fs.take 30).map cutF = us at *
  have HSZ := hidM (sizeF_le400 HS4.out)
  go_enter Tryz.func6, Tryz.ntmps6
  go_wp2_with fail
  refine HSH.out.mono ?_
  rintro _ w1 ⟨⟨g, cap, rfl, hg, hgl, hcap, hFA⟩, hb1⟩
  have HB1 := hidM hb1
  have HG1 := hidM (HG.out.below hb1)
  have HF1 := hidM hFA
  have HNEW := hidM (new_anyO g 0 cap us w1 hgl hFA (by have := HSZ.out; omega) (by omega))
  clear hb1 hFA HSH HG
  have HRD := hidM (fun V q b c gs (hF : Folder V q b 0 c gs) (hm : ∀ f ∈ gs, f ∈ us) (hlen : gs.length ≤ 30) (hr : Rise gs) (hV : LG V) => lread_any q b 0 c gs id V hF (by omega) hr (fun f hf => by have := HS4.out f (hm f hf); omega) hV hi)
  obtain ⟨len, hl⟩ : ∃ len, len = us.length := ⟨_, rfl⟩
  rw [← hl] at HNEW hcap hl30 ⊢
  have HL := hidM hl
  clear hl
  go_wp2_with fail
  refine HNEW.out.mono ?_
  rintro _ w2 ⟨hnp, hb2⟩
  have HB2 := hidM (HB1.out.trans (hb2.mono HB1.out.size))
  have HG2 := hidM (HG1.out.below hb2)
  have HF2 := hidM (HF1.out.below hb2 hgl)
  have hgl2 : g < w2.heap.size := Nat.lt_of_lt_of_le hgl hb2.size
  clear hb2 HNEW HB1 HG1 HF1 hgl
  have HBAD : Hid (∀ er : Int, er ≠ 0 → True) := fun _ _ => trivial
  rcases hnp with ⟨hbig, rfl⟩ | ⟨_, hnok, rfl⟩ | ⟨hnb, hok, gs, q, b, c, hperm, hrise, hfold, hq, hb, rfl⟩
  · exfalso
    unfold bigF at hbig
    have := HSZ.out
    have := HL.out
    omega
  · unfold newR
    go_wp2_with fail
    refine (HPA.out _).mono ?_
    rintro _ w3 ⟨rfl, hb3⟩
    have HB3 := hidM (HB2.out.trans (hb3.mono HB2.out.size))
    clear hb3
    generalize (pathR id).1 = P1 at *
    generalize (pathR id).2 = P2 at *
    go_wp2_with fail
    refine (HAW.out _).mono ?_
    rintro _ w4 ⟨rfl, hb4⟩
    have HB4 := hidM (HB3.out.trans (hb4.mono HB3.out.size))
    clear hb4
    go_wp2
    go_ret
    exact ⟨rfl, HB4.out⟩
  · unfold newR
    have HFo := hidM hfold
    have HOK := hidM hok
    have HPE := hidM hperm
    have HRI := hidM hrise
    clear hfold hok hperm hrise hnb
    cases hib : idB id.data.toList with
    | false =>
      have hp : pathR id = (⟨#[]⟩, 4) := by unfold pathR; rw [hib]; rfl
      rw [hp] at HPA
      clear hp hib
      go_wp2_with fail
      refine (HPA.out _).mono ?_
      rintro _ w3 ⟨rfl, hb3⟩
      have HB3 := hidM (HB2.out.trans (hb3.mono HB2.out.size))
      clear hb3
      go_wp2_with fail
      refine (HAW.out _).mono ?_
      rintro _ w4 ⟨rfl, hb4⟩
      have HB4 := hidM (HB3.out.trans (hb4.mono HB3.out.size))
      clear hb4
      go_wp2
      go_ret
      exact ⟨rfl, HB4.out⟩
    | true =>
      have hp : pathR id = (pathB id, 0) := by unfold pathR; rw [hib]; rfl
      rw [hp] at HPA
      have HIB := hidM hib
      clear hp hib
      go_wp2_with fail
      refine (HPA.out _).mono ?_
      rintro _ w3 ⟨rfl, hb3⟩
      have HB3 := hidM (HB2.out.trans (hb3.mono HB2.out.size))
      have HG3 := hidM (HG2.out.below hb3)
      have HF3 := hidM (HF2.out.below hb3 hgl2)
      have HFo3 := hidM (HFo.out.below hb3)
      have hgl3 : g < w3.heap.size := Nat.lt_of_lt_of_le hgl2 hb3.size
      clear hb3 HB2 HG2 HF2 HFo hgl2 HPA
      generalize hPB : pathB id = PB at *
      have HPB := hidM hPB
      clear hPB
      have HOA : Hid (OwnR (w3.alloc (.cells #[] 48)) w3.heap.size (.slice (some ⟨w3.heap.size, 0, none⟩) 0 0) []) := ⟨World.ownsRow_made w3 #[] 0 (Nat.le_refl _) (Nat.zero_le _) (by simp), by intro h; cases h⟩
      have HBA : Hid (Below w3.heap.size w3 (w3.alloc (.cells #[] 48))) := (Below.refl _ w3).alloc (Nat.le_refl _) _
      go_wp2
      generalize w3.alloc (.cells #[] 48) = W0 at *
      go_loopw [9, 11, 52] (fun lv _ iv wr => ∃ k : Nat, k ≤ len ∧ iv = .int .i64 (k : Int) ∧ OwnR wr w3.heap.size lv (ownL (us.take k) PB) ∧ Below w3.heap.size w3 wr) (fun _ _ iv _ => len - (intOf iv).toNat)
      case atStart => exact ⟨0, Nat.zero_le _, rfl, HOA.out, HBA.out⟩
      case round =>
        obtain ⟨k, hk, rfl, hown, hbel⟩ := hrel
        have HO := hidM hown
        have HW := hidM hbel
        clear hown hbel HOA HBA
        by_cases hlt : k < len
        · have hku : k < us.length := by rw [← HL.out]; exact hlt
          obtain ⟨x0, x1⟩ := HF3.out k hku
          rw [Nat.zero_add] at x0 x1
          have y0 := (HW.out.cell (p := ⟨g, k * 2, none⟩) hgl3).trans x0
          have y1 := (HW.out.cell (p := ⟨g, k * 2 + 1, none⟩) hgl3).trans x1
          have HTK : Hid (ownL (us.take (k + 1)) PB = if us[k].1 = PB then ownL (us.take k) PB ++ [us[k]] else ownL (us.take k) PB) := by
            unfold Hid ownL
            rw [List.take_add_one, List.getElem?_eq_getElem hku, List.filter_append]
            by_cases e : us[k].1 = PB
            · rw [if_pos e]; simp [e]
            · rw [if_neg e]; simp [e]
          have hkl : (ownL (us.take k) PB).length ≤ 30 := by
            have h1 : (ownL (us.take k) PB).length ≤ (us.take k).length := List.length_filter_le _ _
            rw [List.length_take] at h1
            omega
          clear x0 x1
          generalize us[k] = uk at *
          obtain ⟨p1, p2⟩ := uk
          simp only at y0 y1 HTK
          have HEB : Hid ((wr.alloc (.cells #[.string p1, .string p2] 48)).heap[wr.heap.size]? = some (.cells #[.string p1, .string p2] 48 (0, 0))) := heap_alloc_new wr _
          have HWa : Hid (Below w3.heap.size w3 (wr.alloc (.cells #[.string p1, .string p2] 48))) := HW.out.alloc HW.out.size _
          have HOa : Hid (OwnR (wr.alloc (.cells #[.string p1, .string p2] 48)) w3.heap.size u9 (ownL (us.take k) PB)) := ⟨HO.out.1.alloc _, HO.out.2⟩
          have c0 : (wr.alloc (.cells #[.string p1, .string p2] 48)).cell? ⟨wr.heap.size, 0, none⟩ = some (.string p1) := by rw [cell_of_row _ _ _ _ 48 (0, 0) HEB.out]; rfl
          have c1 : (wr.alloc (.cells #[.string p1, .string p2] 48)).cell? ⟨wr.heap.size, 1, none⟩ = some (.string p2) := by rw [cell_of_row _ _ _ _ 48 (0, 0) HEB.out]; rfl
          clear HO HEB
          by_cases he : p1 = PB
          · rw [if_pos he] at HTK
            have b1 : (p1.toList == PB.toList) = true := by rw [he]; simp
            have HMK := hidM (fun (V : World) (x : Value) (h : V.ownsRow w3.heap.size 48 2 x ((ownL (us.take k) PB).length + 1) (flatF (ownL (us.take k) PB) ++ [.string p1, .string p2])) hn => OwnR.more (f := (p1, p2)) h hn)
            rw [← HTK.out] at HMK
            clear he HTK
            obtain ⟨o2, ho2⟩ : ∃ o2, o2 = ownL (us.take (k + 1)) PB := ⟨_, rfl⟩
            rw [← ho2] at HMK
            have HO2 := hidM ho2
            clear ho2
            generalize hOL : ownL (us.take k) PB = ol at *
            clear hOL
            have HOB := hidM HOa.out.1
            have HOL := hidM HOa.out.1.lt
            have HNN := hidM HOa.out.2
            generalize flatF ol = fl at *
            generalize ol.length = ln at *
            go_wp2_with (at_builtin; refine wpList_append_own _ rfl _ _ 22 rfl w3.heap.size 48 i0 (.agg #[.string .empty, .string .empty]) 2 32 Tryz.underlying22 hi0 hz0 hz1 hz2 rfl (by decide) _ _ _ rfl (World.ownsRow.alloc HOB.out _) ⟨_, 0, none⟩ 1 1 [.string p1, .string p2] rfl rfl ?qc2 ?qc3 ?qc4 ?qc5 ?qc6 ?_)
            case qc2 => exact cell_new2L (by simp) _ _
            case qc3 => intro u hu; simp at hu; rcases hu with rfl | rfl <;> rfl
            case qc4 => unfold maxLen; omega
            case qc5 => omega
            case qc6 => have := HWa.out.size; simp at this ⊢; omega
            intro v' w5 hown' hgrow hnil
            have HO5 := hidM (HMK.out _ _ hown' hnil)
            have HB5 : Hid (Below w3.heap.size w3 w5) := (HWa.out.alloc HWa.out.size _).grown hgrow (by have := HWa.out.size; simp at this ⊢; omega) (fun g hg => (HOL.out g hg).1)
            clear hown' hgrow hnil HMK HOB HOa HOL HNN c0 c1
            go_wp2
            go_roundw
            case rel => exact ⟨k + 1, by omega, by go_num, by rw [← HO2.out]; exact HO5.out, HB5.out⟩
            case measure => simp [intOf]; omega
          · rw [if_neg he] at HTK
            have b1 := bytes_ne he
            clear he
            go_wp2
            go_roundw
            case rel => exact ⟨k + 1, by omega, by go_num, by rw [HTK.out]; exact HOa.out, HWa.out⟩
            case measure => simp [intOf]; omega
        · obtain rfl : k = len := by omega
          have HTL : Hid (us.take k = us) := by unfold Hid; rw [HL.out, List.take_length]
          rw [HTL.out] at HO
          obtain ⟨g2, cap2, rfl, hc2, _, hg2, hFA2⟩ := HO.out.shape
          have hsub : (ownL us PB).Sublist us := List.filter_sublist
          have holl : (ownL us PB).length ≤ 30 := by have h1 := hsub.length_le; rw [← HL.out] at h1; omega
          have hoz : sizeF (ownL us PB) ≤ 400 * (ownL us PB).length := sizeF_le400 (fun f hf => HS4.out f (hsub.subset hf))
          have HNW := hidM (new_anyO g2 0 cap2 (ownL us PB) wr hg2 hFA2 (by omega) (by omega))
          have HOK2 := hidM (okF_sub HOK.out hsub)
          have HSUB := hidM hsub.subset
          have HBW := hidM (HB3.out.trans (HW.out.mono HB3.out.size))
          have HGW := hidM (HG3.out.below HW.out)
          have HFoW := hidM (HFo3.out.below HW.out)
          have HSAME := hidM (fun os x y (ho : os.Perm (ownL us PB)) (hx : ReadQ gs id x) (hy : ReadQ os id y) => read_same HOK.out.2.1 HPE.out (by rw [HPB.out]; exact ho) HIB.out hx hy)
          rw [HPB.out] at HSAME
          clear hsub hFA2 HO HW HB3 HG3 HFo3 HF3 hgl3
          generalize hOL : ownL us PB = ol at *
          clear hOL
          have HOZ := hidM hoz
          clear hoz
          obtain ⟨n1, hn1⟩ : ∃ n1, n1 = ol.length := ⟨_, rfl⟩
          rw [← hn1] at HNW holl ⊢
          have HN1 := hidM hn1
          clear hn1
          go_wp2_with fail
          refine HNW.out.mono ?_
          rintro _ w5 ⟨hnp, hb5⟩
          have HB5 := hidM (HBW.out.trans (hb5.mono HBW.out.size))
          have HG5 := hidM (HGW.out.below hb5)
          have HFo5 := hidM (HFoW.out.below hb5)
          clear hb5 HNW HBW HGW HFoW
          rcases hnp with ⟨hbig, rfl⟩ | ⟨_, hnok, rfl⟩ | ⟨_, _, os, q2, b2, c2, hperm2, hrise2, hfold2, _, _, rfl⟩
          · exfalso
            unfold bigF at hbig
            have h1 := HOZ.out
            have h2 := HN1.out
            omega
          · exact absurd HOK2.out hnok
          · unfold newR
            have HFt := hidM hfold2
            have HPt := hidM hperm2
            have HRt := hidM hrise2
            clear hfold2 hperm2 hrise2
            have HR1 := hidM (HRD.out w5 q b c gs HFo5.out (fun f hf => HPE.out.mem_iff.1 hf) (by rw [HPE.out.length_eq, ← HL.out]; omega) HRI.out.rise HG5.out)
            go_wp2_with fail
            refine HR1.out.mono ?_
            rintro _ w6 ⟨⟨⟨kx, dx, ex⟩, hqx, rfl⟩, hb6⟩
            have HB6 := hidM (HB5.out.trans (hb6.mono HB5.out.size))
            have HG6 := hidM (HG5.out.below hb6)
            have HFt6 := hidM (HFt.out.below hb6)
            have HQX := hidM hqx
            clear hb6 HR1 HB5 HG5 HFo5 HFt hqx
            unfold objV
            simp only
            obtain ⟨DB, hDB⟩ : ∃ DB : ByteArray, DB = ⟨dx.toArray⟩ := ⟨_, rfl⟩
            have HDB : Hid (DB.data.toList = dx) := by unfold Hid; rw [hDB]
            rw [← hDB]
            have HDQ := hidM hDB
            clear hDB
            have HEA : Hid ((w6.alloc (.cells #[.int .i64 (kx : Nat), .string DB] 32)).heap[w6.heap.size]? = some (.cells #[.int .i64 (kx : Nat), .string DB] 32 (0, 0))) := heap_alloc_new _ _
            have HBa := hidM (HB6.out.alloc HB6.out.size (.cells #[.int .i64 (kx : Nat), .string DB] 32))
            have HBb : Hid (Below w6.heap.size w6 (w6.alloc (.cells #[.int .i64 (kx : Nat), .string DB] 32))) := (Below.refl _ w6).alloc (Nat.le_refl _) _
            have HGa := hidM (HG6.out.below HBb.out)
            have HFta := hidM (HFt6.out.below HBb.out)
            clear HBb HB6 HG6 HFt6
            have HR2 := hidM (HRD.out _ q2 b2 c2 os HFta.out (fun f hf => HSUB.out (HPt.out.mem_iff.1 hf)) (by rw [HPt.out.length_eq, ← HN1.out]; omega) HRt.out.rise HGa.out)
            go_wp2_with fail
            generalize w6.alloc (.cells #[.int .i64 (kx : Nat), .string DB] 32) = W6 at *
            generalize w6.heap.size = A at *
            refine HR2.out.mono ?_
            rintro _ w7 ⟨⟨y, hqy, rfl⟩, hb7⟩
            obtain ⟨hxy, hone⟩ := HSAME.out os _ _ HPt.out HQX.out hqy
            subst hxy
            have HEA7 := hidM (box_keptL HEA.out hb7)
            have HB7 := hidM (HBa.out.trans (hb7.mono HBa.out.size))
            have HON := hidM hone
            clear hb7 HR2 HBa HGa HFta HEA hqy hone HSAME
            unfold objV
            simp only
            rw [← HDQ.out]
            have hA7 := (Array.getElem?_eq_some_iff.1 HEA7.out).1
            have HEB8 : Hid ((w7.alloc (.cells #[.int .i64 (kx : Nat), .string DB] 32)).heap[w7.heap.size]? = some (.cells #[.int .i64 (kx : Nat), .string DB] 32 (0, 0))) := heap_alloc_new _ _
            have HEA8 : Hid ((w7.alloc (.cells #[.int .i64 (kx : Nat), .string DB] 32)).heap[A]? = some (.cells #[.int .i64 (kx : Nat), .string DB] 32 (0, 0))) := (heap_alloc_old _ _ hA7).trans HEA7.out
            have HB8 := hidM (HB7.out.alloc HB7.out.size (.cells #[.int .i64 (kx : Nat), .string DB] 32))
            clear HEA7 HB7 hA7
            simp only at HON
            have HSURE := hidM (fun h => read_sure HQX.out h)
            simp only at HSURE
            have hgd := guard32
            have heq := fun V => equal32 (kx : Nat) DB V
            have bee : ((ex : Int) == (ex : Int)) = true := by simp
            go_wp2_with fail
            generalize w7.alloc (.cells #[.int .i64 (kx : Nat), .string DB] 32) = W8 at *
            generalize w7.heap.size = B at *
            refine (HAW.out _).mono ?_
            rintro _ w9 ⟨rfl, hb9⟩
            have HEA9 := hidM (box_keptL HEA8.out hb9)
            have HEB9 := hidM (box_keptL HEB8.out hb9)
            have HB9 := hidM (HB8.out.trans (hb9.mono HB8.out.size))
            clear hb9 HEA8 HEB8 HB8 HAW
            have c0 : w9.cell? ⟨A, 0, none⟩ = some (.int .i64 (kx : Nat)) := by rw [cell_of_row _ _ _ _ 32 (0, 0) HEA9.out]; rfl
            have c1 : w9.cell? ⟨A, 1, none⟩ = some (.string DB) := by rw [cell_of_row _ _ _ _ 32 (0, 0) HEA9.out]; rfl
            have c2' : w9.cell? ⟨B, 0, none⟩ = some (.int .i64 (kx : Nat)) := by rw [cell_of_row _ _ _ _ 32 (0, 0) HEB9.out]; rfl
            have c3 : w9.cell? ⟨B, 1, none⟩ = some (.string DB) := by rw [cell_of_row _ _ _ _ 32 (0, 0) HEB9.out]; rfl
            by_cases h7 : ex = 7
            · subst h7
              by_cases hn1 : n1 = 1
              · have bn1 : ((n1 : Int) == 1) = true := by rw [hn1]; rfl
                clear hn1
                go_wp2
                go_ret
                exact ⟨by first | rfl | simp, HB9.out⟩
              · have bn1 : ((n1 : Int) == 1) = false := by simp only [beq_eq_false_iff_ne, ne_eq]; omega
                clear hn1
                go_wp2
                go_ret
                exact ⟨by first | rfl | simp, HB9.out⟩
            · have b7 : ((ex : Int) == 7) = false := by simp only [beq_eq_false_iff_ne, ne_eq]; omega
              have hn1 : n1 = 1 := HN1.out.trans (HON.out h7)
              have bn1 : ((n1 : Int) == 1) = true := by rw [hn1]; rfl
              clear hn1 HON
              by_cases h0 : ex = 0
              · subst h0
                obtain ⟨e1, e2⟩ := HSURE.out rfl
                obtain ⟨e3, e4⟩ := idT_good e1 e2
                have HRID := hidM (rid_any (kx : Nat) DB w9 (by rw [← len_size DB, HDB.out]; exact e4))
                rw [HDB.out, ← e3] at HRID
                have hidd : (⟨id.data.toList.toArray⟩ : ByteArray) = id := by rfl
                rw [hidd] at HRID
                have bid : (id.toList == id.toList) = true := by simp
                clear e1 e2 e3 e4 hidd HSURE
                go_wp2_with fail
                refine HRID.out.mono ?_
                rintro _ w10 ⟨rfl, hb10⟩
                have HB10 := hidM (HB9.out.trans (hb10.mono HB9.out.size))
                clear hb10
                go_wp2
                go_ret
                exact ⟨by first | rfl | simp, HB10.out⟩
              · have b0 : ((ex : Int) == 0) = false := by simp only [beq_eq_false_iff_ne, ne_eq]; omega
                go_wp2
                go_ret
                exact ⟨by first | rfl | simp, HB9.out⟩
end Go.Proofs.YtddoemeellbhaaaGreatDoor
namespace Go.Proofs.YtddoemeellbhaaaGreatDoor
open Go.ChangeShapes Go.WideShapes Go.RowKit
theorem cells32 : Tryz.prog.cellsOf 48 = 2 := by kernel_rfl
theorem cells9' : Tryz.prog.cellsOf 9 = 1 := by kernel_rfl
theorem weightsAll_mem {H : Type} {P : Program} {e : TypeId} {l : List (DataW H)} {d : DataW H} (h : d ∈ l) {n : Nat} (hn : n ∈ d.weights P e) : n ∈ DataW.weightsAll P e l := by
  induction l with
  | nil => cases h
  | cons x l ih =>
    rw [DataW.weightsAll, List.mem_append]
    rcases List.mem_cons.1 h with rfl | h
    · exact .inl hn
    · exact .inr (ih h)
set_option maxRecDepth 100000 in
theorem open_files {H : Type} {enc : TypeId × Value → H} {W : World} {v : Value} {d : DataW H} {p : List MemPlace} {ts : List TypeId} {ds : List (DataW H)} {j : Nat} (hv1 : v.cells.toList = [v])
    (hw : (DataW.weightsEach Tryz.prog ts ds).all (· ≤ reachBytes) = true) (htj : ts[j]? = some 22) (hdj : ds[j]? = some d)
    (h : DataW.Trod enc Tryz.prog W 0 (fun _ => true) true 22 v d p) :
    ∃ fs, FilesV W v fs ∧ ∀ f ∈ fs, f.1.size ≤ 140737488355328 ∧ f.2.size ≤ 140737488355328 := by
  obtain ⟨fuel, hf⟩ := h
  rcases Deep.open_slice_pairs Tryz.underlying22 Tryz.underlying48 cells32 rfl rfl cells9' cells9' hf with ⟨h0, _⟩ | ⟨a, len, cap, m, n, V0, V1, D0, D1, P0, P1, h0, _, hlc, _, hm, hx, hall⟩
  · rw [hv1] at h0
    exact ⟨[], .inl ⟨by simpa using h0, rfl⟩, fun f hf => by cases hf⟩
  · rw [hv1] at h0
    have hv : v = .slice (some a) len cap := by simpa using h0
    by_cases hl : len = 0
    · subst hl
      exact ⟨[], .inr (.inl ⟨a, cap, hv, rfl⟩), fun f hf => by cases hf⟩
    · have hlm : len ≤ m := by rw [hm]; split <;> omega
      have each : ∀ i, i < len → ∃ f : FileB, W.cell? (a.add (i * 2)) = some (.string f.1) ∧ W.cell? (a.add (i * 2 + 1)) = some (.string f.2) ∧ f.1.size ≤ 140737488355328 ∧ f.2.size ≤ 140737488355328 := by
        intro i hi
        obtain ⟨c0, c1, t0, t1⟩ := hall i (by omega)
        obtain ⟨b0, e0, g0, _⟩ := DataW.trod_string Tryz.underlying9 t0
        obtain ⟨b1, e1, g1, _⟩ := DataW.trod_string Tryz.underlying9 t1
        simp only [List.cons.injEq, and_true] at e0 e1
        rw [e0] at c0
        rw [e1] at c1
        have hd : d = .slice ((List.range len).map fun i => .agg [D0 i, D1 i]) ((List.range (m - len)).map fun j => .agg [D0 (len + j), D1 (len + j)]) := congrArg Prod.fst hx
        have hmem : ∀ k, k ∈ (DataW.agg [D0 i, D1 i]).weights Tryz.prog 48 → k ≤ reachBytes := fun k hk => by
          have h1 : k ∈ d.weights Tryz.prog 22 := by
            rw [hd]
            simp only [DataW.weights, Tryz.underlying22]
            refine List.mem_cons_of_mem _ (List.mem_append.2 (.inl (weightsAll_mem (d := .agg [D0 i, D1 i]) (List.mem_map.2 ⟨i, List.mem_range.2 hi, rfl⟩) hk)))
          simpa using List.all_eq_true.1 hw _ (DataW.weights_mem_each htj hdj k h1)
        have k0 : D0 i = .lit (.string b0.data.toList) := congrArg Prod.fst g0
        have k1 : D1 i = .lit (.string b1.data.toList) := congrArg Prod.fst g1
        have s0 := hmem b0.size (by rw [Lib.size_eq]; simp [DataW.weights, DataW.weightsEach, Tryz.underlying48, k0])
        have s1 := hmem b1.size (by rw [Lib.size_eq]; simp [DataW.weights, DataW.weightsEach, Tryz.underlying48, k1])
        unfold reachBytes at s0 s1
        exact ⟨(b0, b1), c0, c1, (by show b0.size ≤ _; omega), (by show b1.size ≤ _; omega)⟩
      obtain ⟨F, hF⟩ := Deep.choose_lt each
      have ha : ∃ b off, a = ⟨b, off, none⟩ := by
        obtain ⟨c0, _⟩ := hF 0 (by omega)
        rcases a with ⟨b, off, x⟩
        cases x with
        | none => exact ⟨b, off, rfl⟩
        | some y =>
          simp [World.cell?, Addr.add] at c0
          split at c0 <;> cases c0
      obtain ⟨b, off, rfl⟩ := ha
      have hlen : ((List.range len).map F).length = len := by simp
      refine ⟨(List.range len).map F, .inr (.inr ⟨b, off, cap, by rw [hlen]; exact hv, ?_, by rw [hlen]; exact hlc⟩), ?_⟩
      · intro i hi
        rw [hlen] at hi
        obtain ⟨c0, c1, _⟩ := hF i hi
        simp only [List.getElem_map, List.getElem_range]
        rw [Addr.add_lit] at c0 c1
        exact ⟨c0, by rw [← Nat.add_assoc] at c1; exact c1⟩
      · intro f hf
        obtain ⟨i, hi, rfl⟩ := List.mem_map.1 hf
        exact (hF i (List.mem_range.1 hi)).2.2
end Go.Proofs.YtddoemeellbhaaaGreatDoor
