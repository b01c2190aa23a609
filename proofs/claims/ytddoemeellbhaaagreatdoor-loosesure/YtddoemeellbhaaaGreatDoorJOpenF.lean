/-
  Rows of files of the law's own; two objects held against each other.
  The law LooseOnly, walked.
  DERIVED: THE SHELF's CONTRACTS AT THIS DUMP, IN PLAIN WORDS (tools/lay-plain.mjs out of 'YtddoemeellbhaaaGreatDoorLoR.lean', which tools/lay-shelf.mjs wrote): THE SAME DECLARATIONS UNDER THE SAME NAMES: 'import', 'namespace', 'open', 'def', 'theorem' AND NOTHING ELSE: no command of the shelf's: FOR A HAND-IN. Each laying: the table of numbers ('.._ren') and one theorem, a field a fact of the dump's own or the kernel's comparison; each contract: ONE APPLICATION.
  Walks of loose: List.
  The law LooseSure, walked.
  The way to the card where the road reads a variable that no laid table ties: the world that the card hands on is of its shape, and this says what the variable holds.
  A slice of files that was handed in, opened.
-/
import Derived.Test.YtddoemeellbhaaaGreatDoorJLoC
import Derived.Test.YtddoemeellbhaaaGreatDoorJTxtB
import Derived.Laws.StructEq
import Derived.Shelf.Strings.Replace
import Derived.Test.YtddoemeellbhaaaGreatDoorProg
import Derived.Handed
import Derived.SizedLaws
import Derived.ChangeOld
import Derived.ShutString
import Derived.Shelf.Vars
import Derived.Test.YtddoemeellbhaaaGreatDoorJSnapL
import Derived.Deep.SlicePairs
namespace Go.Proofs.YtddoemeellbhaaaGreatDoor
open Go.RowKit

def flatF : List FileB → List Value
  | [] => []
  | f :: fs => .string f.1 :: .string f.2 :: flatF fs
theorem flatF_len (fs : List FileB) : (flatF fs).length = fs.length * 2 := by
  induction fs with
  | nil => rfl
  | cons f fs ih => simp only [flatF, List.length_cons, ih]; omega
theorem flatF_app (a b : List FileB) : flatF (a ++ b) = flatF a ++ flatF b := by
  induction a with
  | nil => rfl
  | cons f a ih => simp [flatF, ih]
theorem flatF_at (fs : List FileB) : ∀ i (h : i < fs.length), (flatF fs)[i * 2]? = some (.string fs[i].1) ∧ (flatF fs)[i * 2 + 1]? = some (.string fs[i].2) := by
  induction fs with
  | nil => intro i hi; cases hi
  | cons f fs ih =>
    intro i hi
    cases i with
    | zero => exact ⟨rfl, rfl⟩
    | succ i =>
      have h := ih i (by simpa using hi)
      rw [show (i + 1) * 2 = i * 2 + 1 + 1 by omega]
      simp only [flatF, List.getElem?_cons_succ, List.getElem_cons_succ]
      exact h
/-- files in a row that the call has made -/
def OwnR (V : World) (B : Nat) (v : Value) (fs : List FileB) : Prop := V.ownsRow B 48 2 v fs.length (flatF fs) ∧ v ≠ .slice none 0 0
theorem OwnR.shape {V : World} {B : Nat} {v : Value} {fs : List FileB} (h : OwnR V B v fs) : ∃ g cap, v = .slice (some ⟨g, 0, none⟩) fs.length cap ∧ fs.length ≤ cap ∧ B ≤ g ∧ g < V.heap.size ∧ FilesAt V g 0 fs := by
  rcases h.1.2 with ⟨hn, _⟩ | ⟨g, cap, cur, rfl, hbase, hbk, h1, h2, h3, h4⟩
  · exact absurd hn h.2
  · refine ⟨g, cap, rfl, h1, hbase, (Array.getElem?_eq_some_iff.1 hbk).1, fun i hi => ?_⟩
    obtain ⟨f0, f1⟩ := flatF_at fs i hi
    have hc : ∀ j u, (flatF fs)[j]? = some u → V.cell? ⟨g, 0 + j, none⟩ = some u := fun j u hj => by
      have := World.ownsRow.cells h.1 (g := g) rfl j u hj
      rw [Addr.add_lit] at this
      exact this
    exact ⟨hc _ _ f0, by rw [Nat.add_assoc]; exact hc _ _ f1⟩
theorem OwnR.more {V : World} {B : Nat} {v : Value} {fs : List FileB} {f : FileB} (h : V.ownsRow B 48 2 v (fs.length + 1) (flatF fs ++ [.string f.1, .string f.2])) (hn : v ≠ .slice none 0 0) : OwnR V B v (fs ++ [f]) := by
  refine ⟨?_, hn⟩
  rw [flatF_app, List.length_append]
  exact h
theorem OwnR.below {V W : World} {B : Nat} {v : Value} {fs : List FileB} (h : OwnR V B v fs) (hb : Below V.heap.size V W) : OwnR W B v fs :=
  ⟨h.1.kept (row := none) ⟨hb.os, hb.tape, hb.output, hb.size, fun k hk _ => hb.block k hk⟩ (by
    cases v.ownBlock with
    | none => exact .inl rfl
    | some k => exact .inr (by simp)), h.2⟩
theorem cell_new2L {W : World} {B : Nat} (hB : W.heap.size = B) (u v : Value) : ∀ j y, [u, v][j]? = some y → (W.alloc (.cells #[u, v] 48)).cell? ((⟨B, 0, none⟩ : Addr).add j) = some y := by
  subst hB
  intro j y hj
  rcases j with _ | _ | j
  · simp at hj; subst hj; rw [Addr.add_lit]; simp
  · simp at hj; subst hj; rw [Addr.add_lit]; simp
  · simp at hj
theorem held32 : Tryz.prog.stoodInHeld 32 = false := by kernel_rfl
theorem guard32 : Tryz.prog.eqGuardType Tryz.prog.depth 32 = false := by kernel_rfl
theorem struct32 : Tryz.prog.underlying 32 = some (.struct (Tryz.prog.fieldsOf 32)) := by kernel_rfl
theorem fields32 : (Tryz.prog.fieldsOf 32).toList.map (fun f => (f.name, f.type, f.offset)) = [("Kind", 3, 0), ("Data", 9, 1)] := by kernel_rfl
theorem equal32 (m1 : Int) (n1 : ByteArray) (w : World) :
    (Op.equalIn 10000 32 (.agg #[.int .i64 m1, .string n1]) (.agg #[.int .i64 m1, .string n1])).run Tryz.prog w = .ok true w := by
  rw [run_equalIn_struct w 9999 32 _ _ struct32 held32]
  have hf := fields32
  obtain ⟨f1, f2, he⟩ : ∃ f1 f2, (Tryz.prog.fieldsOf 32).toList = [f1, f2] := by
    generalize (Tryz.prog.fieldsOf 32).toList = fl at hf
    rcases fl with _ | ⟨f1, _ | ⟨f2, _ | ⟨f3, fl⟩⟩⟩
    · simp at hf
    · simp at hf
    · exact ⟨f1, f2, rfl⟩
    · simp at hf
  rw [he] at hf ⊢
  simp only [List.map_cons, List.map_nil, List.cons.injEq, Prod.mk.injEq, and_true] at hf
  obtain ⟨⟨a1, a2, a3⟩, ⟨b1, b2, b3⟩⟩ := hf
  have p1 : ∀ (m : Int) (n : ByteArray) (w : World), (part 3 #[.int .i64 m, .string n] 0).run Tryz.prog w = .ok (.int .i64 m) w := by intro m n w; kernel_rfl
  have p2 : ∀ (m : Int) (n : ByteArray) (w : World), (part 9 #[.int .i64 m, .string n] 1).run Tryz.prog w = .ok (.string n) w := by intro m n w; kernel_rfl
  simp only [Op.eqFields, a1, a2, a3, b1, b2, b3, Sem.run_ite, Sem.run_bind, p1, p2, Result.andThen_ok, ne_eq, String.reduceEq, not_false_eq_true, if_true]
  rw [run_equalIn_int w 9998 3 .i64 .i64 m1 m1 Tryz.underlying3]
  simp only [Result.andThen_ok, beq_self_eq_true, Bool.not_true, Bool.false_eq_true, if_false]
  rw [run_equalIn_string w 9998 9 n1 n1 Tryz.underlying9]
  simp
/-- what is told of files of which those of one path are taken -/
def ownL (us : List FileB) (p : ByteArray) : List FileB := us.filter fun f => decide (f.1 = p)
theorem okF_sub {us os : List FileB} (h : OkF us) (hs : os.Sublist us) : OkF os :=
  ⟨fun f hf => h.1 f (hs.subset hf), h.2.1.sublist hs, fun f hf g hg => h.2.2 f (hs.subset hf) g (hs.subset hg)⟩
theorem sizeF_le400 {us : List FileB} (h : ∀ f ∈ us, f.2.size ≤ 400) : sizeF us ≤ 400 * us.length := by
  induction us with
  | nil => simp [sizeF]
  | cons f us ih =>
    have h1 := h f (by simp)
    have h2 := ih (fun g hg => h g (by simp [hg]))
    unfold sizeF at h2 ⊢
    simp only [List.map_cons, List.sum_cons, List.length_cons]
    omega
theorem apart_eq {us : List FileB} (h : Apart us) {f g : FileB} (hf : f ∈ us) (hg : g ∈ us) (e : f.1 = g.1) : f = g := by
  induction us with
  | nil => cases hf
  | cons x us ih =>
    unfold Apart at h
    rw [List.pairwise_cons] at h
    rcases List.mem_cons.1 hf with hf1 | hf1 <;> rcases List.mem_cons.1 hg with hg1 | hg1
    · rw [hf1, hg1]
    · exact absurd (hf1 ▸ e) (h.1 g hg1)
    · exact absurd (hg1 ▸ e).symm (h.1 f hf1)
    · exact ih h.2 hf1 hg1
theorem ownL_one {us : List FileB} {p : ByteArray} (h : Apart us) {f : FileB} (hf : f ∈ us) (hp : f.1 = p) : (ownL us p).length = 1 := by
  have hm : f ∈ ownL us p := by unfold ownL; rw [List.mem_filter]; exact ⟨hf, decide_eq_true hp⟩
  have ha : Apart (ownL us p) := h.sublist List.filter_sublist
  have hall : ∀ g ∈ ownL us p, g.1 = p := fun g hg => by unfold ownL at hg; rw [List.mem_filter] at hg; exact of_decide_eq_true hg.2
  generalize ownL us p = os at *
  rcases os with _ | ⟨a, _ | ⟨b, os⟩⟩
  · cases hm
  · rfl
  · unfold Apart at ha
    rw [List.pairwise_cons] at ha
    exact absurd ((hall a (by simp)).trans (hall b (by simp)).symm) (ha.1 b (by simp))
/-- the two readings say the same -/
theorem read_same {us gs os : List FileB} {id : ByteArray} {x y : Nat × List UInt8 × Nat} (ha : Apart us) (hg : gs.Perm us) (ho : os.Perm (ownL us (pathB id))) (hi : idB id.data.toList = true) (hx : ReadQ gs id x) (hy : ReadQ os id y) : x = y ∧ (x.2.2 ≠ 7 → (ownL us (pathB id)).length = 1) := by
  rcases hx with ⟨h, _⟩ | ⟨_, h1, rfl⟩ | ⟨_, f, hf, hfp, hq⟩
  · rw [hi] at h; cases h
  · rcases hy with ⟨h, _⟩ | ⟨_, _, rfl⟩ | ⟨_, f', hf', hfp', _⟩
    · rw [hi] at h; cases h
    · exact ⟨rfl, fun h => absurd rfl h⟩
    · have h2 := ho.mem_iff.1 hf'
      unfold ownL at h2
      rw [List.mem_filter] at h2
      exact absurd hfp' (h1 f' (hg.mem_iff.2 h2.1))
  · have hfu := hg.mem_iff.1 hf
    have hone := ownL_one ha hfu hfp
    have hfo : f ∈ os := ho.mem_iff.2 (by unfold ownL; rw [List.mem_filter]; exact ⟨hfu, decide_eq_true hfp⟩)
    rcases hy with ⟨h, _⟩ | ⟨_, h1, _⟩ | ⟨_, f', hf', hfp', hq'⟩
    · rw [hi] at h; cases h
    · exact absurd hfp (h1 f hfo)
    · have h2 := ho.mem_iff.1 hf'
      unfold ownL at h2
      rw [List.mem_filter] at h2
      obtain rfl := apart_eq ha hfu h2.1 (hfp.trans hfp'.symm)
      exact ⟨FilQ.det hq hq', fun _ => hone⟩
theorem read_sure {fs : List FileB} {id : ByteArray} {x : Nat × List UInt8 × Nat} (h : ReadQ fs id x) (h0 : x.2.2 = 0) : idT (x.1 : Nat) x.2.1 = id.data.toList ∧ idB id.data.toList = true := by
  rcases h with ⟨_, rfl⟩ | ⟨_, _, rfl⟩ | ⟨hi, f, hf, hfp, y, hu, ⟨h1, rfl⟩ | ⟨_, _, rfl⟩ | ⟨h1, h2, rfl⟩⟩
  · cases h0
  · cases h0
  · exact absurd h0 h1
  · cases h0
  · exact ⟨h2, hi⟩
theorem idT_good {k : Nat} {d l : List UInt8} (h : idT (k : Nat) d = l) (hl : idB l = true) : l = hexL (sha1L (encL (k : Nat) d)) ∧ d.length ≤ 65000 := by
  unfold idT at h
  by_cases hc : checkE (k : Nat) d.length = 0
  · rw [if_pos hc] at h
    refine ⟨h.symm, ?_⟩
    unfold checkE at hc
    by_cases hn : nameL (k : Nat) = []
    · rw [if_pos hn] at hc; cases hc
    · rw [if_neg hn] at hc
      by_cases hb : 65000 < d.length
      · rw [if_pos hb] at hc; cases hc
      · omega
  · rw [if_neg hc] at h
    subst h
    exact absurd hl (by decide)
end Go.Proofs.YtddoemeellbhaaaGreatDoor
namespace Go.Proofs.YtddoemeellbhaaaGreatDoor
open Go.RowKit

set_option maxHeartbeats 8000000 in
set_option maxRecDepth 100000 in
theorem only_walk (v : Value) (fs : List FileB) (id : ByteArray) (w : World) (hG : LG w) (hV : FilesV w v fs) (hi : id.size ≤ maxLen) :
    Calls Tryz.prog 6 #[v, .string id] w fun e w' => e = .returned (.bool true) ∧ Below w.heap.size w w' := by
  have HG := hidM hG
  have HSH := hidM (short_any v 30 fs w hV (by decide))
  have HS4 : Hid (∀ f ∈ (fs.take 30).map cutF, f.2.size ≤ 400) := fun f hf => by
    obtain ⟨g, _, rfl⟩ := List.mem_map.1 hf
    exact fewS_size _
  have hl30 : ((fs.take 30).map cutF).length ≤ 30 := by rw [List.length_map, List.length_take]; omega
  have HAW := hidM (fun V => lawake_any V)
  have HPA := hidM (fun V => lpath_any id V hi)
  obtain ⟨i0, hi0, hz0, hz1, hz2⟩ := info_parts info32
  clear hG hV
  generalize (fs.take 30).map cutF = us at *
  have HSZ := hidM (sizeF_le400 HS4.out)
  go_enter Tryz.func6, Tryz.ntmps6
  go_wp2_with fail
  refine HSH.out.mono ?_
  rintro _ w1 ⟨⟨g, cap, rfl, hg, hgl, hcap, hFA⟩, hb1⟩
  have HB1 := hidM hb1
  have HG1 := hidM (HG.out.below hb1)
  have HF1 := hidM hFA
  have HNEW := hidM (new_anyO g 0 cap us w1 hgl hFA (by have := HSZ.out; omega) (by omega))
  clear hb1 hFA HSH HG
  have HRD := hidM (fun V q b c gs (hF : Folder V q b 0 c gs) (hm : ∀ f ∈ gs, f ∈ us) (hlen : gs.length ≤ 30) (hr : Rise gs) (hV : LG V) => lread_any q b 0 c gs id V hF (by omega) hr (fun f hf => by have := HS4.out f (hm f hf); omega) hV hi)
  obtain ⟨len, hl⟩ : ∃ len, len = us.length := ⟨_, rfl⟩
  rw [← hl] at HNEW hcap hl30 ⊢
  have HL := hidM hl
  clear hl
  go_wp2_with fail
  refine HNEW.out.mono ?_
  rintro _ w2 ⟨hnp, hb2⟩
  have HB2 := hidM (HB1.out.trans (hb2.mono HB1.out.size))
  have HG2 := hidM (HG1.out.below hb2)
  have HF2 := hidM (HF1.out.below hb2 hgl)
  have hgl2 : g < w2.heap.size := Nat.lt_of_lt_of_le hgl hb2.size
  clear hb2 HNEW HB1 HG1 HF1 hgl
  have HBAD : Hid (∀ er : Int, er ≠ 0 → True) := fun _ _ => trivial
  rcases hnp with ⟨hbig, rfl⟩ | ⟨_, hnok, rfl⟩ | ⟨hnb, hok, gs, q, b, c, hperm, hrise, hfold, hq, hb, rfl⟩
  · exfalso
    unfold bigF at hbig
    have := HSZ.out
    have := HL.out
    omega
  · unfold newR
    go_wp2_with fail
    refine (HPA.out _).mono ?_
    rintro _ w3 ⟨rfl, hb3⟩
    have HB3 := hidM (HB2.out.trans (hb3.mono HB2.out.size))
    clear hb3
    generalize (pathR id).1 = P1 at *
    generalize (pathR id).2 = P2 at *
    go_wp2_with fail
    refine (HAW.out _).mono ?_
    rintro _ w4 ⟨rfl, hb4⟩
    have HB4 := hidM (HB3.out.trans (hb4.mono HB3.out.size))
    clear hb4
    go_wp2
    go_ret
    exact ⟨rfl, HB4.out⟩
  · unfold newR
    have HFo := hidM hfold
    have HOK := hidM hok
    have HPE := hidM hperm
    have HRI := hidM hrise
    clear hfold hok hperm hrise hnb
    cases hib : idB id.data.toList with
    | false =>
      have hp : pathR id = (⟨#[]⟩, 4) := by unfold pathR; rw [hib]; rfl
      rw [hp] at HPA
      clear hp hib
      go_wp2_with fail
      refine (HPA.out _).mono ?_
      rintro _ w3 ⟨rfl, hb3⟩
      have HB3 := hidM (HB2.out.trans (hb3.mono HB2.out.size))
      clear hb3
      go_wp2_with fail
      refine (HAW.out _).mono ?_
      rintro _ w4 ⟨rfl, hb4⟩
      have HB4 := hidM (HB3.out.trans (hb4.mono HB3.out.size))
      clear hb4
      go_wp2
      go_ret
      exact ⟨rfl, HB4.out⟩
    | true =>
      have hp : pathR id = (pathB id, 0) := by unfold pathR; rw [hib]; rfl
      rw [hp] at HPA
      have HIB := hidM hib
      clear hp hib
      go_wp2_with fail
      refine (HPA.out _).mono ?_
      rintro _ w3 ⟨rfl, hb3⟩
      have HB3 := hidM (HB2.out.trans (hb3.mono HB2.out.size))
      have HG3 := hidM (HG2.out.below hb3)
      have HF3 := hidM (HF2.out.below hb3 hgl2)
      have HFo3 := hidM (HFo.out.below hb3)
      have hgl3 : g < w3.heap.size := Nat.lt_of_lt_of_le hgl2 hb3.size
      clear hb3 HB2 HG2 HF2 HFo hgl2 HPA
      generalize hPB : pathB id = PB at *
      have HPB := hidM hPB
      clear hPB
      have HOA : Hid (OwnR (w3.alloc (.cells #[] 48)) w3.heap.size (.slice (some ⟨w3.heap.size, 0, none⟩) 0 0) []) := ⟨World.ownsRow_made w3 #[] 0 (Nat.le_refl _) (Nat.zero_le _) (by simp), by intro h; cases h⟩
      have HBA : Hid (Below w3.heap.size w3 (w3.alloc (.cells #[] 48))) := (Below.refl _ w3).alloc (Nat.le_refl _) _
      go_wp2
      generalize w3.alloc (.cells #[] 48) = W0 at *
      go_loopw [9, 11, 52] (fun lv _ iv wr => ∃ k : Nat, k ≤ len ∧ iv = .int .i64 (k : Int) ∧ OwnR wr w3.heap.size lv (ownL (us.take k) PB) ∧ Below w3.heap.size w3 wr) (fun _ _ iv _ => len - (intOf iv).toNat)
      case atStart => exact ⟨0, Nat.zero_le _, rfl, HOA.out, HBA.out⟩
      case round =>
        obtain ⟨k, hk, rfl, hown, hbel⟩ := hrel
        have HO := hidM hown
        have HW := hidM hbel
        clear hown hbel HOA HBA
        by_cases hlt : k < len
        · have hku : k < us.length := by rw [← HL.out]; exact hlt
          obtain ⟨x0, x1⟩ := HF3.out k hku
          rw [Nat.zero_add] at x0 x1
          have y0 := (HW.out.cell (p := ⟨g, k * 2, none⟩) hgl3).trans x0
          have y1 := (HW.out.cell (p := ⟨g, k * 2 + 1, none⟩) hgl3).trans x1
          have HTK : Hid (ownL (us.take (k + 1)) PB = if us[k].1 = PB then ownL (us.take k) PB ++ [us[k]] else ownL (us.take k) PB) := by
            unfold Hid ownL
            rw [List.take_add_one, List.getElem?_eq_getElem hku, List.filter_append]
            by_cases e : us[k].1 = PB
            · rw [if_pos e]; simp [e]
            · rw [if_neg e]; simp [e]
          have hkl : (ownL (us.take k) PB).length ≤ 30 := by
            have h1 : (ownL (us.take k) PB).length ≤ (us.take k).length := List.length_filter_le _ _
            rw [List.length_take] at h1
            omega
          clear x0 x1
          generalize us[k] = uk at *
          obtain ⟨p1, p2⟩ := uk
          simp only at y0 y1 HTK
          have HEB : Hid ((wr.alloc (.cells #[.string p1, .string p2] 48)).heap[wr.heap.size]? = some (.cells #[.string p1, .string p2] 48 (0, 0))) := heap_alloc_new wr _
          have HWa : Hid (Below w3.heap.size w3 (wr.alloc (.cells #[.string p1, .string p2] 48))) := HW.out.alloc HW.out.size _
          have HOa : Hid (OwnR (wr.alloc (.cells #[.string p1, .string p2] 48)) w3.heap.size u9 (ownL (us.take k) PB)) := ⟨HO.out.1.alloc _, HO.out.2⟩
          have c0 : (wr.alloc (.cells #[.string p1, .string p2] 48)).cell? ⟨wr.heap.size, 0, none⟩ = some (.string p1) := by rw [cell_of_row _ _ _ _ 48 (0, 0) HEB.out]; rfl
          have c1 : (wr.alloc (.cells #[.string p1, .string p2] 48)).cell? ⟨wr.heap.size, 1, none⟩ = some (.string p2) := by rw [cell_of_row _ _ _ _ 48 (0, 0) HEB.out]; rfl
          clear HO HEB
          by_cases he : p1 = PB
          · rw [if_pos he] at HTK
            have b1 : (p1.toList == PB.toList) = true := by rw [he]; simp
            have HMK := hidM (fun (V : World) (x : Value) (h : V.ownsRow w3.heap.size 48 2 x ((ownL (us.take k) PB).length + 1) (flatF (ownL (us.take k) PB) ++ [.string p1, .string p2])) hn => OwnR.more (f := (p1, p2)) h hn)
            rw [← HTK.out] at HMK
            clear he HTK
            obtain ⟨o2, ho2⟩ : ∃ o2, o2 = ownL (us.take (k + 1)) PB := ⟨_, rfl⟩
            rw [← ho2] at HMK
            have HO2 := hidM ho2
            clear ho2
            generalize hOL : ownL (us.take k) PB = ol at *
            clear hOL
            have HOB := hidM HOa.out.1
            have HOL := hidM HOa.out.1.lt
            have HNN := hidM HOa.out.2
            generalize flatF ol = fl at *
            generalize ol.length = ln at *
            go_wp2_with (at_builtin; refine wpList_append_own _ rfl _ _ 22 rfl w3.heap.size 48 i0 (.agg #[.string .empty, .string .empty]) 2 32 Tryz.underlying22 hi0 hz0 hz1 hz2 rfl (by decide) _ _ _ rfl (World.ownsRow.alloc HOB.out _) ⟨_, 0, none⟩ 1 1 [.string p1, .string p2] rfl rfl ?qc2 ?qc3 ?qc4 ?qc5 ?qc6 ?_)
            case qc2 => exact cell_new2L (by simp) _ _
            case qc3 => intro u hu; simp at hu; rcases hu with rfl | rfl <;> rfl
            case qc4 => unfold maxLen; omega
            case qc5 => omega
            case qc6 => have := HWa.out.size; simp at this ⊢; omega
            intro v' w5 hown' hgrow hnil
            have HO5 := hidM (HMK.out _ _ hown' hnil)
            have HB5 : Hid (Below w3.heap.size w3 w5) := (HWa.out.alloc HWa.out.size _).grown hgrow (by have := HWa.out.size; simp at this ⊢; omega) (fun g hg => (HOL.out g hg).1)
            clear hown' hgrow hnil HMK HOB HOa HOL HNN c0 c1
            go_wp2
            go_roundw
            case rel => exact ⟨k + 1, by omega, by go_num, by rw [← HO2.out]; exact HO5.out, HB5.out⟩
            case measure => simp [intOf]; omega
          · rw [if_neg he] at HTK
            have b1 := bytes_ne he
            clear he
            go_wp2
            go_roundw
            case rel => exact ⟨k + 1, by omega, by go_num, by rw [HTK.out]; exact HOa.out, HWa.out⟩
            case measure => simp [intOf]; omega
        · obtain rfl : k = len := by omega
          have HTL : Hid (us.take k = us) := by unfold Hid; rw [HL.out, List.take_length]
          rw [HTL.out] at HO
          obtain ⟨g2, cap2, rfl, hc2, _, hg2, hFA2⟩ := HO.out.shape
          have hsub : (ownL us PB).Sublist us := List.filter_sublist
          have holl : (ownL us PB).length ≤ 30 := by have h1 := hsub.length_le; rw [← HL.out] at h1; omega
          have hoz : sizeF (ownL us PB) ≤ 400 * (ownL us PB).length := sizeF_le400 (fun f hf => HS4.out f (hsub.subset hf))
          have HNW := hidM (new_anyO g2 0 cap2 (ownL us PB) wr hg2 hFA2 (by omega) (by omega))
          have HOK2 := hidM (okF_sub HOK.out hsub)
          have HSUB := hidM hsub.subset
          have HBW := hidM (HB3.out.trans (HW.out.mono HB3.out.size))
          have HGW := hidM (HG3.out.below HW.out)
          have HFoW := hidM (HFo3.out.below HW.out)
          have HSAME := hidM (fun os x y (ho : os.Perm (ownL us PB)) (hx : ReadQ gs id x) (hy : ReadQ os id y) => read_same HOK.out.2.1 HPE.out (by rw [HPB.out]; exact ho) HIB.out hx hy)
          rw [HPB.out] at HSAME
          clear hsub hFA2 HO HW HB3 HG3 HFo3 HF3 hgl3
          generalize hOL : ownL us PB = ol at *
          clear hOL
          have HOZ := hidM hoz
          clear hoz
          obtain ⟨n1, hn1⟩ : ∃ n1, n1 = ol.length := ⟨_, rfl⟩
          rw [← hn1] at HNW holl ⊢
          have HN1 := hidM hn1
          clear hn1
          go_wp2_with fail
          refine HNW.out.mono ?_
          rintro _ w5 ⟨hnp, hb5⟩
          have HB5 := hidM (HBW.out.trans (hb5.mono HBW.out.size))
          have HG5 := hidM (HGW.out.below hb5)
          have HFo5 := hidM (HFoW.out.below hb5)
          clear hb5 HNW HBW HGW HFoW
          rcases hnp with ⟨hbig, rfl⟩ | ⟨_, hnok, rfl⟩ | ⟨_, _, os, q2, b2, c2, hperm2, hrise2, hfold2, _, _, rfl⟩
          · exfalso
            unfold bigF at hbig
            have h1 := HOZ.out
            have h2 := HN1.out
            omega
          · exact absurd HOK2.out hnok
          · unfold newR
            have HFt := hidM hfold2
            have HPt := hidM hperm2
            have HRt := hidM hrise2
            clear hfold2 hperm2 hrise2
            have HR1 := hidM (HRD.out w5 q b c gs HFo5.out (fun f hf => HPE.out.mem_iff.1 hf) (by rw [HPE.out.length_eq, ← HL.out]; omega) HRI.out.rise HG5.out)
            go_wp2_with fail
            refine HR1.out.mono ?_
            rintro _ w6 ⟨⟨⟨kx, dx, ex⟩, hqx, rfl⟩, hb6⟩
            have HB6 := hidM (HB5.out.trans (hb6.mono HB5.out.size))
            have HG6 := hidM (HG5.out.below hb6)
            have HFt6 := hidM (HFt.out.below hb6)
            have HQX := hidM hqx
            clear hb6 HR1 HB5 HG5 HFo5 HFt hqx
            unfold objV
            simp only
            obtain ⟨DB, hDB⟩ : ∃ DB : ByteArray, DB = ⟨dx.toArray⟩ := ⟨_, rfl⟩
            have HDB : Hid (DB.data.toList = dx) := by unfold Hid; rw [hDB]
            rw [← hDB]
            have HDQ := hidM hDB
            clear hDB
            have HEA : Hid ((w6.alloc (.cells #[.int .i64 (kx : Nat), .string DB] 32)).heap[w6.heap.size]? = some (.cells #[.int .i64 (kx : Nat), .string DB] 32 (0, 0))) := heap_alloc_new _ _
            have HBa := hidM (HB6.out.alloc HB6.out.size (.cells #[.int .i64 (kx : Nat), .string DB] 32))
            have HBb : Hid (Below w6.heap.size w6 (w6.alloc (.cells #[.int .i64 (kx : Nat), .string DB] 32))) := (Below.refl _ w6).alloc (Nat.le_refl _) _
            have HGa := hidM (HG6.out.below HBb.out)
            have HFta := hidM (HFt6.out.below HBb.out)
            clear HBb HB6 HG6 HFt6
            have HR2 := hidM (HRD.out _ q2 b2 c2 os HFta.out (fun f hf => HSUB.out (HPt.out.mem_iff.1 hf)) (by rw [HPt.out.length_eq, ← HN1.out]; omega) HRt.out.rise HGa.out)
            go_wp2_with fail
            generalize w6.alloc (.cells #[.int .i64 (kx : Nat), .string DB] 32) = W6 at *
            generalize w6.heap.size = A at *
            refine HR2.out.mono ?_
            rintro _ w7 ⟨⟨y, hqy, rfl⟩, hb7⟩
            obtain ⟨hxy, hone⟩ := HSAME.out os _ _ HPt.out HQX.out hqy
            subst hxy
            have HEA7 := hidM (box_keptL HEA.out hb7)
            have HB7 := hidM (HBa.out.trans (hb7.mono HBa.out.size))
            have HON := hidM hone
            clear hb7 HR2 HBa HGa HFta HEA hqy hone HSAME
            unfold objV
            simp only
            rw [← HDQ.out]
            have hA7 := (Array.getElem?_eq_some_iff.1 HEA7.out).1
            have HEB8 : Hid ((w7.alloc (.cells #[.int .i64 (kx : Nat), .string DB] 32)).heap[w7.heap.size]? = some (.cells #[.int .i64 (kx : Nat), .string DB] 32 (0, 0))) := heap_alloc_new _ _
            have HEA8 : Hid ((w7.alloc (.cells #[.int .i64 (kx : Nat), .string DB] 32)).heap[A]? = some (.cells #[.int .i64 (kx : Nat), .string DB] 32 (0, 0))) := (heap_alloc_old _ _ hA7).trans HEA7.out
            have HB8 := hidM (HB7.out.alloc HB7.out.size (.cells #[.int .i64 (kx : Nat), .string DB] 32))
            clear HEA7 HB7 hA7
            simp only at HON
            have HSURE := hidM (fun h => read_sure HQX.out h)
            simp only at HSURE
            have hgd := guard32
            have heq := fun V => equal32 (kx : Nat) DB V
            have bee : ((ex : Int) == (ex : Int)) = true := by simp
            go_wp2_with fail
            generalize w7.alloc (.cells #[.int .i64 (kx : Nat), .string DB] 32) = W8 at *
            generalize w7.heap.size = B at *
            refine (HAW.out _).mono ?_
            rintro _ w9 ⟨rfl, hb9⟩
            have HEA9 := hidM (box_keptL HEA8.out hb9)
            have HEB9 := hidM (box_keptL HEB8.out hb9)
            have HB9 := hidM (HB8.out.trans (hb9.mono HB8.out.size))
            clear hb9 HEA8 HEB8 HB8 HAW
            have c0 : w9.cell? ⟨A, 0, none⟩ = some (.int .i64 (kx : Nat)) := by rw [cell_of_row _ _ _ _ 32 (0, 0) HEA9.out]; rfl
            have c1 : w9.cell? ⟨A, 1, none⟩ = some (.string DB) := by rw [cell_of_row _ _ _ _ 32 (0, 0) HEA9.out]; rfl
            have c2' : w9.cell? ⟨B, 0, none⟩ = some (.int .i64 (kx : Nat)) := by rw [cell_of_row _ _ _ _ 32 (0, 0) HEB9.out]; rfl
            have c3 : w9.cell? ⟨B, 1, none⟩ = some (.string DB) := by rw [cell_of_row _ _ _ _ 32 (0, 0) HEB9.out]; rfl
            by_cases h7 : ex = 7
            · subst h7
              by_cases hn1 : n1 = 1
              · have bn1 : ((n1 : Int) == 1) = true := by rw [hn1]; rfl
                clear hn1
                go_wp2
                go_ret
                exact ⟨by first | rfl | simp, HB9.out⟩
              · have bn1 : ((n1 : Int) == 1) = false := by simp only [beq_eq_false_iff_ne, ne_eq]; omega
                clear hn1
                go_wp2
                go_ret
                exact ⟨by first | rfl | simp, HB9.out⟩
            · have b7 : ((ex : Int) == 7) = false := by simp only [beq_eq_false_iff_ne, ne_eq]; omega
              have hn1 : n1 = 1 := HN1.out.trans (HON.out h7)
              have bn1 : ((n1 : Int) == 1) = true := by rw [hn1]; rfl
              clear hn1 HON
              by_cases h0 : ex = 0
              · subst h0
                obtain ⟨e1, e2⟩ := HSURE.out rfl
                obtain ⟨e3, e4⟩ := idT_good e1 e2
                have HRID := hidM (rid_any (kx : Nat) DB w9 (by rw [← len_size DB, HDB.out]; exact e4))
                rw [HDB.out, ← e3] at HRID
                have hidd : (⟨id.data.toList.toArray⟩ : ByteArray) = id := by rfl
                rw [hidd] at HRID
                have bid : (id.toList == id.toList) = true := by simp
                clear e1 e2 e3 e4 hidd HSURE
                go_wp2_with fail
                refine HRID.out.mono ?_
                rintro _ w10 ⟨rfl, hb10⟩
                have HB10 := hidM (HB9.out.trans (hb10.mono HB9.out.size))
                clear hb10
                go_wp2
                go_ret
                exact ⟨by first | rfl | simp, HB10.out⟩
              · have b0 : ((ex : Int) == 0) = false := by simp only [beq_eq_false_iff_ne, ne_eq]; omega
                go_wp2
                go_ret
                exact ⟨by first | rfl | simp, HB9.out⟩
end Go.Proofs.YtddoemeellbhaaaGreatDoor
namespace Go.Proofs
open Go.Shelf
def Tryz.rlays155_ren : Go.Shelf.Ren := ⟨fun | 155 => 49 | 154 => 90 | 138 => 142 | 165 => 143 | 143 => 144 | 166 => 119 | 197 => 145 | 169 => 120 | 195 => 184 | 218 => 185 | 240 => 165 | 241 => 186 | 219 => 183 | 260 => 187 | 276 => 205 | 277 => 225 | 217 => 221 | 225 => 222 | 224 => 223 | 267 => 224 | 266 => 247 | 314 => 248 | n => n, fun | 9 => 9 | 3 => 3 | 4 => 4 | 72 => 140 | 0 => 0 | 76 => 143 | 105 => 166 | 21 => 21 | 5 => 5 | 70 => 138 | 20 => 20 | 37 => 81 | 75 => 142 | 127 => 183 | 164 => 225 | 46 => 96 | 119 => 246 | 139 => 249 | 138 => 248 | 146 => 222 | 51 => 79 | 80 => 133 | n => n, fun | 1 => 0 | 3 => 2 | 4 => 3 | n => n⟩
theorem Tryz.rlays155 : Go.Proofs.Lays.n155 Tryz.prog Tryz.rlays155_ren := {
  mixed := by kernel_rfl
  f138 := Tryz.func142.trans (congrArg some (by kernel_rfl))
  f143 := Tryz.func144.trans (congrArg some (by kernel_rfl))
  f154 := Tryz.func90.trans (congrArg some (by kernel_rfl))
  f155 := Tryz.func49.trans (congrArg some (by kernel_rfl))
  f165 := Tryz.func143.trans (congrArg some (by kernel_rfl))
  f166 := Tryz.func119.trans (congrArg some (by kernel_rfl))
  f169 := Tryz.func120.trans (congrArg some (by kernel_rfl))
  f195 := Tryz.func184.trans (congrArg some (by kernel_rfl))
  f197 := Tryz.func145.trans (congrArg some (by kernel_rfl))
  f217 := Tryz.func221.trans (congrArg some (by kernel_rfl))
  f218 := Tryz.func185.trans (congrArg some (by kernel_rfl))
  f219 := Tryz.func183.trans (congrArg some (by kernel_rfl))
  f224 := Tryz.func223.trans (congrArg some (by kernel_rfl))
  f225 := Tryz.func222.trans (congrArg some (by kernel_rfl))
  f240 := Tryz.func165.trans (congrArg some (by kernel_rfl))
  f241 := Tryz.func186.trans (congrArg some (by kernel_rfl))
  f260 := Tryz.func187.trans (congrArg some (by kernel_rfl))
  f266 := Tryz.func247.trans (congrArg some (by kernel_rfl))
  f267 := Tryz.func224.trans (congrArg some (by kernel_rfl))
  f276 := Tryz.func205.trans (congrArg some (by kernel_rfl))
  f277 := Tryz.func225.trans (congrArg some (by kernel_rfl))
  f314 := Tryz.func248.trans (congrArg some (by kernel_rfl))
  t0 := Tryz.underlying0
  a0 := Tryz.isAgg0
  z0 := Tryz.sizeOf0
  v0 := Tryz.zeroValue0
  t3 := Tryz.underlying3
  a3 := Tryz.isAgg3
  z3 := Tryz.sizeOf3
  v3 := Tryz.zeroValue3
  t4 := Tryz.underlying4
  a4 := Tryz.isAgg4
  z4 := Tryz.sizeOf4
  v4 := Tryz.zeroValue4
  t5 := Tryz.underlying5
  a5 := Tryz.isAgg5
  z5 := Tryz.sizeOf5
  v5 := Tryz.zeroValue5
  t9 := Tryz.underlying9
  a9 := Tryz.isAgg9
  z9 := Tryz.sizeOf9
  v9 := Tryz.zeroValue9
  t20 := Tryz.underlying20
  a20 := Tryz.isAgg20
  z20 := Tryz.sizeOf20
  v20 := Tryz.zeroValue20
  t21 := Tryz.underlying21
  a21 := Tryz.isAgg21
  z21 := Tryz.sizeOf21
  v21 := Tryz.zeroValue21
  t37 := Tryz.underlying81
  a37 := Tryz.isAgg81
  z37 := Tryz.sizeOf81
  v37 := Tryz.zeroValue81
  t46 := Tryz.underlying96
  a46 := Tryz.isAgg96
  z46 := Tryz.sizeOf96
  v46 := Tryz.zeroValue96
  t51 := Tryz.underlying79
  a51 := Tryz.isAgg79
  z51 := Tryz.sizeOf79
  v51 := Tryz.zeroValue79
  t70 := Tryz.underlying138
  a70 := Tryz.isAgg138
  z70 := Tryz.sizeOf138
  v70 := Tryz.zeroValue138
  t72 := Tryz.underlying140
  a72 := Tryz.isAgg140
  z72 := Tryz.sizeOf140
  v72 := Tryz.zeroValue140
  t75 := Tryz.underlying142
  a75 := Tryz.isAgg142
  z75 := Tryz.sizeOf142
  v75 := Tryz.zeroValue142
  t76 := Tryz.underlying143
  a76 := Tryz.isAgg143
  z76 := Tryz.sizeOf143
  v76 := Tryz.zeroValue143
  t105 := Tryz.underlying166
  a105 := Tryz.isAgg166
  z105 := Tryz.sizeOf166
  v105 := Tryz.zeroValue166
  t119 := Tryz.underlying246
  a119 := Tryz.isAgg246
  z119 := Tryz.sizeOf246
  t127 := Tryz.underlying183
  a127 := Tryz.isAgg183
  z127 := Tryz.sizeOf183
  v127 := Tryz.zeroValue183
  t138 := Tryz.underlying248
  a138 := Tryz.isAgg248
  z138 := Tryz.sizeOf248
  v138 := Tryz.zeroValue248
  t139 := Tryz.underlying249
  a139 := Tryz.isAgg249
  z139 := Tryz.sizeOf249
  v139 := Tryz.zeroValue249
  t146 := Tryz.underlying222
  a146 := Tryz.isAgg222
  z146 := Tryz.sizeOf222
  v146 := Tryz.zeroValue222
  t164 := Tryz.underlying225
  a164 := Tryz.isAgg225
  z164 := Tryz.sizeOf225
  v164 := Tryz.zeroValue225
  g1 := by kernel_rfl
  g3 := by kernel_rfl
  g4 := by kernel_rfl }
theorem Tryz.rBuilder_Extra_155 : Builder.Extra Tryz.prog Tryz.rlays155_ren := {
  sizeBuilder := by kernel_rfl
  liesBuilder := by kernel_rfl
  t5 := Tryz.underlying5
  a5 := Tryz.isAgg5
  z5 := Tryz.sizeOf5
  v5 := Tryz.zeroValue5
  infoByte := by kernel_rfl
  cellsByte := by kernel_rfl
  sizeByte := by kernel_rfl
  neB5 := by decide }
open Go.RowKit Go.Lib in
/-- strings.ReplaceAll: "ReplaceAll returns a copy of the string s with all non-overlapping instances of old replaced by new.": AT AN old THAT IS NOT EMPTY: 'Lib.replaceAll s old new'. (LAID: no walk: one application.) -/
theorem Tryz.strings_ReplaceAll (s old new : ByteArray) (m : Int) (w : World) (hs : s.size < 4294967281) (hm : w.cell? ⟨0, 0, none⟩ = some (.int .i64 m)) (h1 : 1 ≤ old.size) (hlen : s.size + Lib.countB s old * new.size ≤ 140737488355328) :
    Calls Tryz.prog 49 #[.string s, .string old, .string new] w fun e w' =>
      e = .returned (.string ⟨(Lib.replaceAll s.data.toList old.data.toList new.data.toList).toArray⟩) ∧ Below w.heap.size w w' := Any.strings_ReplaceAll Tryz.rlays155 Tryz.rBuilder_Extra_155 s old new m w hs hm h1 hlen
end Go.Proofs
namespace Go.Proofs.YtddoemeellbhaaaGreatDoor
open Go.RowKit

/-- what is left of a text without its slashes -/
def noSlash (s : ByteArray) : ByteArray := ⟨(Lib.replaceAll s.data.toList [47] []).toArray⟩
theorem replaceK_len (k : Nat) : ∀ s : List UInt8, (Lib.replaceK [47] [] k s).length ≤ s.length := by
  induction k with
  | zero => intro s; exact Nat.le_refl _
  | succ k ih =>
    intro s
    unfold Lib.replaceK
    split
    · exact Nat.le_refl _
    · rw [List.length_append, List.length_append, List.length_take]
      have h := ih (s.drop ((Lib.index s [47]).toNat + [(47 : UInt8)].length))
      rw [List.length_drop] at h
      simp only [List.length_cons, List.length_nil] at h ⊢
      omega
theorem noSlash_size (s : ByteArray) : (noSlash s).size ≤ s.size := by
  show (Lib.replaceAll s.data.toList [47] []).toArray.size ≤ _
  rw [List.size_toArray, ← len_size s]
  unfold Lib.replaceAll Lib.replace
  split
  · exact Nat.le_refl _
  · exact replaceK_len _ _
/-- the library's own variable holds some number -/
def MI (w : World) : Prop := ∃ m, w.cell? ⟨0, 0, none⟩ = some (.int .i64 m)
theorem MI.below {w w' : World} (h : MI w) (hb : Below w.heap.size w w') : MI w' := by
  obtain ⟨m, hm⟩ := h
  exact ⟨m, (hb.cell (p := ⟨0, 0, none⟩) (World.block_lt_of_cell? _ _ hm)).trans hm⟩
theorem repl_any (s : ByteArray) (w : World) (hs : s.size ≤ 1000) (hm : MI w) :
    Calls Tryz.prog 49 #[.string s, .string ⟨#[47]⟩, .string ⟨#[]⟩] w fun e w' => e = .returned (.string (noSlash s)) ∧ Below w.heap.size w w' := by
  obtain ⟨m, hm⟩ := hm
  exact Tryz.strings_ReplaceAll s ⟨#[47]⟩ ⟨#[]⟩ m w (by omega) hm (by decide) (by show s.size + _ * 0 ≤ _; omega)
def objS : ByteArray := ⟨#[111, 98, 106, 101, 99, 116, 115, 47]⟩
theorem und_size {fs : List FileB} (hc : ∀ f ∈ fs, f.1.size ≤ 200) : ∀ p ∈ pathsL (undF fs objS), 8 ≤ p.size ∧ p.size ≤ 200 := by
  intro p hp
  unfold pathsL undF at hp
  obtain ⟨f, hf, rfl⟩ := List.mem_map.1 hp
  rw [List.mem_filter] at hf
  refine ⟨?_, hc f hf.1⟩
  have h := hf.2
  unfold beginsF Lib.hasPrefix at h
  have h2 := (List.isPrefixOf_iff_prefix.1 h).length_le
  rw [len_size, len_size] at h2
  exact h2
/-- the names that List tells -/
def listN (ps : List ByteArray) : List ByteArray := (ps.map fun p => noSlash (p.extract 8 p.size)).filter fun id => idB id.data.toList && ps.contains (pathB id)
def lstep (p : ByteArray) : Option ByteArray := if idB (noSlash (p.extract 8 p.size)).data.toList = true ∧ pathB (noSlash (p.extract 8 p.size)) = p then some (noSlash (p.extract 8 p.size)) else none
def listL (ps : List ByteArray) : List ByteArray := ps.filterMap lstep
theorem listL_next {ps : List ByteArray} {k : Nat} (hk : k < ps.length) : listL (ps.take (k + 1)) = listL (ps.take k) ++ (match lstep ps[k] with | some x => [x] | none => []) := by
  unfold listL
  rw [List.take_add_one, List.getElem?_eq_getElem hk, List.filterMap_append]
  congr 1
  simp only [Option.toList_some, List.filterMap_cons, List.filterMap_nil]
  cases lstep ps[k] <;> rfl
set_option maxHeartbeats 4000000 in
set_option maxRecDepth 100000 in
theorem llist_any (q b off c : Nat) (fs : List FileB) (w : World) (hF : Folder w q b off c fs) (hl : fs.length ≤ 1000) (hr : Rise fs) (hc : ∀ f ∈ fs, f.1.size ≤ 200) (hM : MI w) :
    Calls Tryz.prog 20 #[.pointer (some ⟨q, 0, none⟩)] w fun e w' => SlRet w' w.heap.size (listL (pathsL (undF fs objS))) e ∧ Below w.heap.size w w' := by
  have HUN := hidM (Under_any q b off c fs objS w hF (by omega) hr)
  have HSZ := hidM (und_size hc)
  have hpl : (pathsL (undF fs objS)).length ≤ 1000 := by
    unfold pathsL undF
    rw [List.length_map]
    exact Nat.le_trans (List.length_filter_le _ _) hl
  have HM := hidM hM
  obtain ⟨i0, hi0, hz0, hz1, hz2⟩ := info_parts info9
  clear hF hr hc hM hl
  generalize pathsL (undF fs objS) = ps at *
  unfold objS at HUN
  have HTL : Hid (ps.take ps.length = ps) := by unfold Hid; rw [List.take_length]
  go_enter Tryz.func20, Tryz.ntmps20
  go_wp2_with fail
  refine HUN.out.mono ?_
  rintro _ w1 ⟨⟨v1, ho1, rfl⟩, hb1⟩
  have HB1 := hidM hb1
  have HM1 := hidM (HM.out.below hb1)
  have HO1 := hidM ho1
  clear hb1 ho1 HUN HM
  have HCE : Hid (∀ (V : World) (k : Nat) (hk : k < ps.length), Below w1.heap.size w1 V → ∃ g cap, v1 = .slice (some ⟨g, 0, none⟩) ps.length cap ∧ V.cell? ⟨g, k, none⟩ = some (.string ps[k])) := fun V k hk hV => by
    have h := HO1.out
    unfold OwnS at h
    rcases h.2 with ⟨_, h0⟩ | ⟨g, cap, cur, hv, _, hbk, _⟩
    · omega
    · have hx : (strsV ps)[k]? = some (.string ps[k]) := by unfold strsV; rw [List.getElem?_map, List.getElem?_eq_getElem hk]; rfl
      have hc := World.ownsRow.cells h (g := g) (by rw [hv]; rfl) k _ hx
      rw [Addr.add_lit, Nat.zero_add] at hc
      exact ⟨g, cap, hv, (hV.cell (p := ⟨g, k, none⟩) (Array.getElem?_eq_some_iff.1 hbk).1).trans hc⟩
  obtain ⟨a1, cap1, hv1⟩ : ∃ a1 cap1, v1 = .slice a1 ps.length cap1 := by
    have h := HO1.out
    unfold OwnS at h
    rcases h.2 with ⟨hn, h0⟩ | ⟨g, cap, cur, hv, _⟩
    · exact ⟨none, 0, by rw [hn, h0]⟩
    · exact ⟨_, _, hv⟩
  subst hv1
  clear HO1
  obtain ⟨len, hln⟩ : ∃ len, len = ps.length := ⟨_, rfl⟩
  rw [← hln] at hpl HTL ⊢
  have HL := hidM hln
  clear hln
  go_wp2
  go_loopw [3, 5, 6, 7, 8, 12] (fun lv _ _ _ _ iv wr => ∃ k : Nat, k ≤ len ∧ iv = .int .i64 (k : Int) ∧ OwnS wr w1.heap.size lv (listL (ps.take k)) ∧ Below w1.heap.size w1 wr) (fun _ _ _ _ _ iv _ => len - (intOf iv).toNat)
  case atStart => exact ⟨0, Nat.zero_le _, rfl, World.ownsRow_nil _ _ _ _, Below.refl _ _⟩
  case round =>
    obtain ⟨k, hk, rfl, hown, hbel⟩ := hrel
    have HO := hidM hown
    have HW := hidM hbel
    have HMr := hidM (HM1.out.below hbel)
    clear hown hbel
    by_cases hlt : k < len
    · have hku : k < ps.length := by rw [← HL.out]; exact hlt
      obtain ⟨g, cap, hv, x0⟩ := HCE.out wr k hku HW.out
      simp only [Value.slice.injEq] at hv
      obtain ⟨rfl, -, rfl⟩ := hv
      obtain ⟨z1, z2⟩ := HSZ.out ps[k] (List.getElem_mem hku)
      have HNX := hidM (listL_next hku)
      have hll : (listL (ps.take k)).length ≤ 1000 := by
        have h1 : (listL (ps.take k)).length ≤ (ps.take k).length := List.length_filterMap_le _ _
        rw [List.length_take] at h1
        omega
      generalize ps[k] = p at *
      have c8 : (8 : Int) ≤ (p.size : Int) := by omega
      have HRP := hidM (fun V (hV : MI V) => repl_any (p.extract 8 p.size) V (by rw [ByteArray.size_extract]; omega) hV)
      have hns := noSlash_size (p.extract 8 p.size)
      rw [ByteArray.size_extract] at hns
      have HLS : Hid (lstep p = if idB (noSlash (p.extract 8 p.size)).data.toList = true ∧ pathB (noSlash (p.extract 8 p.size)) = p then some (noSlash (p.extract 8 p.size)) else none) := rfl
      generalize noSlash (p.extract 8 p.size) = id at *
      have HPA := hidM (fun V => lpath_any id V (by unfold maxLen; omega))
      go_wp2_with fail
      refine (HRP.out _ HMr.out).mono ?_
      rintro _ w2 ⟨rfl, hb2⟩
      have HW2 := hidM (HW.out.trans (hb2.mono HW.out.size))
      have HO2 : Hid (OwnS w2 w1.heap.size u3 (listL (ps.take k))) := HO.out.kept (row := none) ⟨hb2.os, hb2.tape, hb2.output, hb2.size, fun k hk _ => hb2.block k hk⟩ (by
        cases u3.ownBlock with
        | none => exact .inl rfl
        | some k => exact .inr (by simp))
      clear hb2 HRP HO HW
      go_wp2_with fail
      refine (HPA.out _).mono ?_
      rintro _ w3 ⟨rfl, hb3⟩
      have HW3 := hidM (HW2.out.trans (hb3.mono HW2.out.size))
      have HO3 : Hid (OwnS w3 w1.heap.size u3 (listL (ps.take k))) := HO2.out.kept (row := none) ⟨hb3.os, hb3.tape, hb3.output, hb3.size, fun k hk _ => hb3.block k hk⟩ (by
        cases u3.ownBlock with
        | none => exact .inl rfl
        | some k => exact .inr (by simp))
      clear hb3 HPA HO2 HW2
      by_cases hi : idB id.data.toList = true
      · have hp : pathR id = (pathB id, 0) := by unfold pathR; rw [if_pos hi]
        rw [hp]
        clear hp
        by_cases he : pathB id = p
        · have b1 : ((pathB id).toList == p.toList) = true := by rw [he]; simp
          rw [if_pos ⟨hi, he⟩] at HLS
          rw [HLS.out] at HNX
          simp only at HNX
          clear hi he HLS
          generalize pathB id = PB at *
          obtain ⟨o2, ho2⟩ : ∃ o2, o2 = listL (ps.take (k + 1)) := ⟨_, rfl⟩
          rw [← ho2] at HNX
          have HQ2 := hidM ho2
          clear ho2
          have HMK := hidM (fun (V : World) (x : Value) (h : V.ownsRow w1.heap.size 9 1 x ((listL (ps.take k)).length + 1) (strsV (listL (ps.take k)) ++ [.string id])) => OwnS.push h)
          rw [← HNX.out] at HMK
          have HOB : Hid (w3.ownsRow w1.heap.size 9 1 u3 (listL (ps.take k)).length (strsV (listL (ps.take k)))) := HO3.out
          generalize strsV (listL (ps.take k)) = sv at *
          generalize (listL (ps.take k)).length = ln at *
          go_wp2_with (at_builtin; refine wpList_append_own _ rfl _ _ 43 rfl w1.heap.size 9 i0 (.string .empty) 1 16 Tryz.underlying43 hi0 hz0 hz1 hz2 rfl (by decide) _ _ _ rfl (World.ownsRow.alloc HOB.out _) ⟨_, 0, none⟩ 1 1 [.string id] rfl rfl ?qc2 ?qc3 ?qc4 ?qc5 ?qc6 ?_)
          case qc2 => intro j y hj; rcases j with _ | j <;> simp at hj; subst hj; rw [Addr.add_lit]; simp
          case qc3 => intro u hu; simp at hu; subst hu; rfl
          case qc4 => unfold maxLen; omega
          case qc5 => omega
          case qc6 => have := HW3.out.size; simp at this ⊢; omega
          intro v' w5 hown' hgrow hnil
          have HO5 := hidM (HMK.out _ _ hown')
          have HB5 : Hid (Below w1.heap.size w1 w5) := (HW3.out.alloc HW3.out.size _).grown hgrow (by have := HW3.out.size; simp at this ⊢; omega) (fun g hg => (HOB.out.lt g hg).1)
          clear hown' hgrow hnil HMK HOB
          go_wp2
          go_roundw
          case rel => exact ⟨k + 1, by omega, by go_num, by rw [← HQ2.out]; exact HO5.out, HB5.out⟩
          case measure => simp [intOf]; omega
        · have b1 := bytes_ne he
          rw [if_neg (fun h => he h.2)] at HLS
          rw [HLS.out] at HNX
          simp only [List.append_nil] at HNX
          clear hi he HLS
          generalize pathB id = PB at *
          go_wp2
          go_roundw
          case rel => exact ⟨k + 1, by omega, by go_num, by rw [HNX.out]; exact HO3.out, HW3.out⟩
          case measure => simp [intOf]; omega
      · have hp : pathR id = (⟨#[]⟩, 4) := by unfold pathR; rw [if_neg hi]
        rw [hp]
        rw [if_neg (fun h => hi h.1)] at HLS
        rw [HLS.out] at HNX
        simp only [List.append_nil] at HNX
        clear hp hi HLS
        go_wp2
        go_roundw
        case rel => exact ⟨k + 1, by omega, by go_num, by rw [HNX.out]; exact HO3.out, HW3.out⟩
        case measure => simp [intOf]; omega
    · obtain rfl : k = len := by omega
      have hks := HB1.out.size
      have HRES : Hid (OwnS wr w.heap.size u3 (listL ps)) := by
        have h := HO.out
        rw [HTL.out] at h
        refine ⟨h.1, ?_⟩
        rcases h.2 with h0 | ⟨g, cap, cur, hv, hbs, r⟩
        · exact .inl h0
        · exact .inr ⟨g, cap, cur, hv, by omega, r⟩
      have HBF := hidM (HB1.out.trans (HW.out.mono HB1.out.size))
      go_wp2
      go_ret
      exact ⟨⟨_, HRES.out, rfl⟩, HBF.out⟩
end Go.Proofs.YtddoemeellbhaaaGreatDoor
namespace Go.Proofs.YtddoemeellbhaaaGreatDoor
open Go.RowKit

theorem read_bad {fs : List FileB} {id : ByteArray} {x : Nat × List UInt8 × Nat} (h : ReadQ fs id x) (h0 : x.2.2 ≠ 0) : x.2.1 = [] := by
  rcases h with ⟨_, rfl⟩ | ⟨_, _, rfl⟩ | ⟨hi, f, hf, hfp, y, hu, ⟨h1, rfl⟩ | ⟨_, _, rfl⟩ | ⟨h1, h2, rfl⟩⟩
  · rfl
  · rfl
  · rfl
  · rfl
  · exact absurd rfl h0
theorem listL_id {ps : List ByteArray} : ∀ x ∈ listL ps, x.size = 40 := by
  intro x hx
  unfold listL at hx
  obtain ⟨p, _, hp⟩ := List.mem_filterMap.1 hx
  unfold lstep at hp
  split at hp
  · rename_i h
    cases hp
    exact idB_size h.1
  · cases hp
theorem Folder.belowB {w w' : World} {B q b off c : Nat} {fs : List FileB} (h : Folder w q b off c fs) (hb : Below B w w') (hq : q < B) (hbb : b < B) : Folder w' q b off c fs :=
  ⟨(hb.cell (p := ⟨q, 0, none⟩) hq).trans h.cell, h.files.below hb hbb, Nat.lt_of_lt_of_le h.qlt hb.size, Nat.lt_of_lt_of_le h.blt hb.size, h.cap⟩
set_option maxHeartbeats 8000000 in
set_option maxRecDepth 100000 in
theorem sure_walk (v : Value) (fs : List FileB) (id : ByteArray) (w : World) (hG : LG w) (hM : MI w) (hV : FilesV w v fs) (hi : id.size ≤ maxLen) :
    Calls Tryz.prog 5 #[v, .string id] w fun e w' => e = .returned (.bool true) ∧ Below w.heap.size w w' := by
  have HG := hidM hG
  have HM := hidM hM
  have HSH := hidM (short_any v 30 fs w hV (by decide))
  have HS4 : Hid (∀ f ∈ (fs.take 30).map cutF, f.2.size ≤ 400) := fun f hf => by
    obtain ⟨g, _, rfl⟩ := List.mem_map.1 hf
    exact fewS_size _
  have hl30 : ((fs.take 30).map cutF).length ≤ 30 := by rw [List.length_map, List.length_take]; omega
  have HAW := hidM (fun V => lawake_any V)
  obtain ⟨i0, hi0, hz0, hz1, hz2⟩ := info_parts info9
  clear hG hV hM
  generalize (fs.take 30).map cutF = us at *
  have HSZ := hidM (sizeF_le400 HS4.out)
  go_enter Tryz.func5, Tryz.ntmps5
  go_wp2_with fail
  refine HSH.out.mono ?_
  rintro _ w1 ⟨⟨g, cap, rfl, hg, hgl, hcap, hFA⟩, hb1⟩
  have HB1 := hidM hb1
  have HG1 := hidM (HG.out.below hb1)
  have HM1 := hidM (HM.out.below hb1)
  have HNEW := hidM (new_anyO g 0 cap us w1 hgl hFA (by have := HSZ.out; omega) (by omega))
  clear hb1 hFA HSH HG HM
  have HRD := hidM (fun V q b c gs x (hF : Folder V q b 0 c gs) (hp : gs.Perm us) (hr : Rise gs) (hV : LG V) (hx : x.size ≤ maxLen) => lread_any q b 0 c gs x V hF (by rw [hp.length_eq]; omega) hr (fun f hf => by have := HS4.out f (hp.mem_iff.1 hf); omega) hV hx)
  obtain ⟨len, hl⟩ : ∃ len, len = us.length := ⟨_, rfl⟩
  rw [← hl] at HNEW hcap hl30 ⊢
  have HL := hidM hl
  clear hl
  go_wp2_with fail
  refine HNEW.out.mono ?_
  rintro _ w2 ⟨hnp, hb2⟩
  have HB2 := hidM (HB1.out.trans (hb2.mono HB1.out.size))
  have HG2 := hidM (HG1.out.below hb2)
  have HM2 := hidM (HM1.out.below hb2)
  clear hb2 HNEW HB1 HG1 HM1 hgl
  rcases hnp with ⟨hbig, rfl⟩ | ⟨_, hnok, rfl⟩ | ⟨hnb, hok, gs, q, b, c, hperm, hrise, hfold, hq, hb, rfl⟩
  · exfalso
    unfold bigF at hbig
    have := HSZ.out
    have := HL.out
    omega
  · unfold newR
    go_wp2_with fail
    refine (HAW.out _).mono ?_
    rintro _ w4 ⟨rfl, hb4⟩
    have HB4 := hidM (HB2.out.trans (hb4.mono HB2.out.size))
    clear hb4
    go_wp2
    go_ret
    exact ⟨rfl, HB4.out⟩
  · unfold newR
    have HFo := hidM hfold
    have HPE := hidM hperm
    have HRI := hidM hrise
    have HLS := hidM (llist_any q b 0 c gs w2 hfold (by rw [hperm.length_eq, ← HL.out]; omega) hrise.rise (fun f hf => clean_size (hok.1 f (hperm.mem_iff.1 hf))) HM2.out)
    clear hfold hok hperm hrise hnb
    have HLI := hidM (listL_id (ps := pathsL (undF gs objS)))
    have hll : (listL (pathsL (undF gs objS))).length ≤ 30 := by
      have h1 : (listL (pathsL (undF gs objS))).length ≤ (pathsL (undF gs objS)).length := List.length_filterMap_le _ _
      have h2 : (pathsL (undF gs objS)).length ≤ gs.length := by unfold pathsL undF; rw [List.length_map]; exact List.length_filter_le _ _
      rw [HPE.out.length_eq, ← HL.out] at h2
      omega
    generalize listL (pathsL (undF gs objS)) = ls at *
    go_wp2_with fail
    refine HLS.out.mono ?_
    rintro _ w3 ⟨⟨v3, ho3, rfl⟩, hb3⟩
    have HB3 := hidM (HB2.out.trans (hb3.mono HB2.out.size))
    have HB2' := hidM HB2.out
    have HG3 := hidM (HG2.out.below hb3)
    have HFo3 := hidM (HFo.out.below hb3)
    have hq2 := HFo.out.qlt
    have hb2' := HFo.out.blt
    have H23 := hidM hb3
    have HG2' := hidM HG2.out
    have HO3 : Hid (w3.ownsRow w2.heap.size 9 1 v3 ls.length (strsV ls)) := ho3
    have h23 := hb3.size
    clear hb3 ho3 HLS HB2 HG2 HFo HM2
    have HMK := hidM (fun (V : World) (x : Value) (h : V.ownsRow w2.heap.size 9 1 x (ls.length + 1) (strsV ls ++ [.string id])) => OwnS.push h)
    have HIDS : Hid (∀ x ∈ ls ++ [id], x.size ≤ maxLen) := fun x hx => by
      rcases List.mem_append.1 hx with hx | hx
      · rw [HLI.out x hx]; decide
      · rw [List.mem_singleton.1 hx]; exact hi
    have HNL : Hid ((ls ++ [id]).length = ls.length + 1) := by unfold Hid; simp
    generalize ls ++ [id] = xs at *
    generalize strsV ls = sv at *
    generalize ls.length = ln at *
    go_wp2_with (at_builtin; refine wpList_append_own _ rfl _ _ 43 rfl w2.heap.size 9 i0 (.string .empty) 1 16 Tryz.underlying43 hi0 hz0 hz1 hz2 rfl (by decide) _ _ _ rfl (World.ownsRow.alloc HO3.out _) ⟨_, 0, none⟩ 1 1 [.string id] rfl rfl ?qc2 ?qc3 ?qc4 ?qc5 ?qc6 ?_)
    case qc2 => intro j y hj; rcases j with _ | j <;> simp at hj; subst hj; rw [Addr.add_lit]; simp
    case qc3 => intro u hu; simp at hu; subst hu; rfl
    case qc4 => unfold maxLen; omega
    case qc5 => omega
    case qc6 => simp; omega
    intro v' w5 hown' hgrow hnil
    have HO5 := hidM (HMK.out _ _ hown')
    have HGR : Hid (Below w2.heap.size w3 w5) := ((Below.refl _ w3).alloc h23 _).grown hgrow (by simp; omega) (fun g hg => (HO3.out.lt g hg).1)
    have HB5 := hidM (HB2'.out.trans ((H23.out.trans HGR.out).mono HB2'.out.size))
    have HG5 := hidM (HG2'.out.below (H23.out.trans HGR.out))
    have HFo5 := hidM (HFo3.out.belowB HGR.out hq2 hb2')
    clear hown' hgrow hnil HMK HGR H23 HG2' HB2' HFo3 HG3 HB3 HO3
    obtain ⟨g5, c5, hv5, hcell⟩ : ∃ g5 c5, v' = .slice (some ⟨g5, 0, none⟩) xs.length c5 ∧ (g5 < w5.heap.size ∧ ∀ k (hk : k < xs.length), w5.cell? ⟨g5, k, none⟩ = some (.string xs[k])) := by
      have h := HO5.out
      unfold OwnS at h
      rcases h.2 with ⟨_, h0⟩ | ⟨g5, c5, cur, hv, _, hbk, _⟩
      · have := HNL.out; omega
      · refine ⟨g5, c5, hv, (Array.getElem?_eq_some_iff.1 hbk).1, fun k hk => ?_⟩
        have hx : (strsV xs)[k]? = some (.string xs[k]) := by unfold strsV; rw [List.getElem?_map, List.getElem?_eq_getElem hk]; rfl
        have hc := World.ownsRow.cells h (g := g5) (by rw [hv]; rfl) k _ hx
        rw [Addr.add_lit, Nat.zero_add] at hc
        exact hc
    subst hv5
    have HCL := hidM hcell
    clear hcell HO5
    obtain ⟨n5, hn5⟩ : ∃ n5, n5 = xs.length := ⟨_, rfl⟩
    rw [← hn5]
    have hn31 : n5 ≤ 31 := by rw [hn5, HNL.out]; omega
    have HN5 := hidM hn5
    clear hn5
    go_wp2
    go_loopw [8, 9, 10, 34] (fun _ _ _ iv wr => ∃ k : Nat, k ≤ n5 ∧ iv = .int .i64 (k : Int) ∧ Below w5.heap.size w5 wr) (fun _ _ _ iv _ => n5 - (intOf iv).toNat)
    case atStart => exact ⟨0, Nat.zero_le _, rfl, Below.refl _ _⟩
    case round =>
      obtain ⟨k, hk, rfl, hbel⟩ := hrel
      have HW := hidM hbel
      have HGr := hidM (HG5.out.below hbel)
      have HFr := hidM (HFo5.out.below hbel)
      clear hbel
      by_cases hlt : k < n5
      · have hku : k < xs.length := by rw [← HN5.out]; exact hlt
        have x0 := (HW.out.cell (p := ⟨g5, k, none⟩) HCL.out.1).trans (HCL.out.2 k hku)
        have hxz := HIDS.out xs[k] (List.getElem_mem hku)
        generalize xs[k] = x at *
        have HR1 := hidM (HRD.out wr q b c gs x HFr.out HPE.out HRI.out.rise HGr.out hxz)
        go_wp2_with fail
        refine HR1.out.mono ?_
        rintro _ w6 ⟨⟨⟨kx, dx, ex⟩, hqx, rfl⟩, hb6⟩
        have HW6 := hidM (HW.out.trans (hb6.mono HW.out.size))
        have HSU := hidM (fun h => read_sure hqx h)
        have HBD := hidM (fun h => read_bad hqx h)
        clear hb6 HR1 HW HGr HFr hqx
        simp only at HSU HBD
        unfold objV
        simp only
        obtain ⟨DB, hDB⟩ : ∃ DB : ByteArray, DB = ⟨dx.toArray⟩ := ⟨_, rfl⟩
        have HDB : Hid (DB.data.toList = dx) := by unfold Hid; rw [hDB]
        rw [← hDB]
        clear hDB
        have HEA : Hid ((w6.alloc (.cells #[.int .i64 (kx : Nat), .string DB] 32)).heap[w6.heap.size]? = some (.cells #[.int .i64 (kx : Nat), .string DB] 32 (0, 0))) := heap_alloc_new _ _
        have HWa := hidM (HW6.out.alloc HW6.out.size (.cells #[.int .i64 (kx : Nat), .string DB] 32))
        have c0 : (w6.alloc (.cells #[.int .i64 (kx : Nat), .string DB] 32)).cell? ⟨w6.heap.size, 0, none⟩ = some (.int .i64 (kx : Nat)) := by rw [cell_of_row _ _ _ _ 32 (0, 0) HEA.out]; rfl
        have c1 : (w6.alloc (.cells #[.int .i64 (kx : Nat), .string DB] 32)).cell? ⟨w6.heap.size, 1, none⟩ = some (.string DB) := by rw [cell_of_row _ _ _ _ 32 (0, 0) HEA.out]; rfl
        by_cases h0 : ex = 0
        · subst h0
          obtain ⟨e1, e2⟩ := HSU.out rfl
          obtain ⟨e3, e4⟩ := idT_good e1 e2
          have HRID := hidM (fun V => rid_any (kx : Nat) DB V (by rw [← len_size DB, HDB.out]; exact e4))
          rw [HDB.out, ← e3] at HRID
          have hidd : (⟨x.data.toList.toArray⟩ : ByteArray) = x := by rfl
          rw [hidd] at HRID
          have bid : (x.toList == x.toList) = true := by simp
          clear e1 e2 e3 e4 hidd HSU HBD
          go_wp2_with fail
          refine (HRID.out _).mono ?_
          rintro _ w8 ⟨rfl, hb8⟩
          have HW8 := hidM (HWa.out.trans (hb8.mono HWa.out.size))
          clear hb8 HRID HEA HWa c0 c1
          go_wp2
          go_roundw
          case rel => exact ⟨k + 1, by omega, by go_num, HW8.out⟩
          case measure => simp [intOf]; omega
        · have b0 : ((ex : Int) == 0) = false := by simp only [beq_eq_false_iff_ne, ne_eq]; omega
          have hde : DB = ⟨#[]⟩ := bytes_ext (by rw [HDB.out, HBD.out h0])
          have bde : DB.toList.isEmpty = true := by rw [hde]; decide +kernel
          clear hde HSU HBD
          go_wp2
          go_roundw
          case rel => exact ⟨k + 1, by omega, by go_num, HWa.out⟩
          case measure => simp [intOf]; omega
      · have HBF := hidM (HB5.out.trans (HW.out.mono HB5.out.size))
        go_wp2_with fail
        refine (HAW.out _).mono ?_
        rintro _ w9 ⟨rfl, hb9⟩
        have HB9 := hidM (HBF.out.trans (hb9.mono HBF.out.size))
        clear hb9
        go_wp2
        go_ret
        exact ⟨rfl, HB9.out⟩
end Go.Proofs.YtddoemeellbhaaaGreatDoor
namespace Go.Proofs.YtddoemeellbhaaaGreatDoor
open Go.ChangeShapes Go.WideShapes Go.WideMaps Go.WideElems

theorem mi_of_open {w : World} (h : w.ShapedOpen Tryz.prog) : MI w :=
  cell_of_shapedOpen_int (P := Tryz.prog) (g := 0) (t := 3) (zero := #[.int .i64 0]) (k := .i64) h (of_decide_eq_true (by kernel_rfl)) (by kernel_rfl) rfl (by kernel_rfl) (by kernel_rfl) (by kernel_rfl)

theorem handed_open {H : Type} {enc : TypeId × Value → H} {a : Assume} {C : Checked} {os : Os} {f : FuncId} {fn : Func} {s : ChangeSpec} {conds : List PathCond} {apart fresh handsOn again : Bool} {X : World → Array Value → Prop}
    (hX : ∀ (w w' : World) (args : Array Value), w.heap = w'.heap → X w args → X w' args)
    (own : ownKnob C.prog.godebug = none) (started : os.Started) (noInit : C.prog.inits.idxOf? f = none) (hfn : C.prog.funcs[f]? = some fn)
    (wit : ∃ (w : World) (tape : Tape) (i : Input), w.os = os ∧ (w.forCall tape i).Shaped C.prog ∧ i.vars = [] ∧ Input.okWide C.prog (w.forCall tape i) .any w.heap.size f i ∧
      ((s.pre enc C.prog fn conds apart (w.forCall tape i).memory i.args ∧ X (w.forCall tape i).memory i.args) ∧ sizedMet enc C.prog fn (OpenSpec.ofChange s) apart (w.forCall tape i).memory i.args) ∧ a.holds C.prog (lone (Frame.enter C.prog f i.args .normal) [] (w.forCall tape i)))
    (K : ∀ (W : World) (base : Nat) (args : Array Value) (ds gs : List (DataW H)) (before : List MemPlace), W.ShapedOpen C.prog →
      (∀ (j : Nat) t v, fn.params[j]? = some t → args[j]? = some v → Value.okWide C.prog W .any base t v) →
      DataW.Whole enc C.prog fn.params.toList s.vars apart W args.toList ds gs before →
      conds.all (PathCond.test C.prog ⟨fn.params.toList, ds, s.plain.varTypes C.prog, gs⟩) = true →
      (DataW.weightsEach C.prog (fn.params.toList ++ s.plain.varTypes C.prog) (ds ++ gs)).all (· ≤ reachBytes) = true → X W args →
      Calls C.prog f args W fun e W' => ∃ v, e = .returned v ∧ s.post enc C.prog fn apart fresh handsOn again W args v W') :
    ReturnsInHanded a C os f .any (fun w args => (s.pre enc C.prog fn conds apart w args ∧ X w args) ∧ sizedMet enc C.prog fn (OpenSpec.ofChange s) apart w args) (s.post enc C.prog fn apart fresh handsOn again) := by
  refine returnsInHanded_of_calls own started noInit wit fun w tape i _ hso _ hok hpre _ => ?_
  obtain ⟨_, _, _, g, hg, _, _, _, _, hval⟩ := hok
  obtain rfl : g = fn := Option.some.inj (hg.symm.trans hfn)
  obtain ⟨⟨⟨ds, gs, before, hw, hc⟩, hx⟩, hz⟩ := hpre
  refine (K (w.forCall tape i) w.heap.size i.args ds gs before hso hval (DataW.Whole.of_heap (w' := w.forCall tape i) (by rfl) hw) hc (hz.weights hw) (hX _ _ _ (by rfl) hx)).mono fun e W' ⟨v, he, hp⟩ => ?_
  subst he
  exact ChangeSpec.post_blind hp
end Go.Proofs.YtddoemeellbhaaaGreatDoor
namespace Go.Proofs.YtddoemeellbhaaaGreatDoor
open Go.ChangeShapes Go.WideShapes Go.RowKit
theorem cells32 : Tryz.prog.cellsOf 48 = 2 := by kernel_rfl
theorem cells9' : Tryz.prog.cellsOf 9 = 1 := by kernel_rfl
theorem weightsAll_mem {H : Type} {P : Program} {e : TypeId} {l : List (DataW H)} {d : DataW H} (h : d ∈ l) {n : Nat} (hn : n ∈ d.weights P e) : n ∈ DataW.weightsAll P e l := by
  induction l with
  | nil => cases h
  | cons x l ih =>
    rw [DataW.weightsAll, List.mem_append]
    rcases List.mem_cons.1 h with rfl | h
    · exact .inl hn
    · exact .inr (ih h)
set_option maxRecDepth 100000 in
theorem open_files {H : Type} {enc : TypeId × Value → H} {W : World} {v : Value} {d : DataW H} {p : List MemPlace} {ts : List TypeId} {ds : List (DataW H)} {j : Nat} (hv1 : v.cells.toList = [v])
    (hw : (DataW.weightsEach Tryz.prog ts ds).all (· ≤ reachBytes) = true) (htj : ts[j]? = some 22) (hdj : ds[j]? = some d)
    (h : DataW.Trod enc Tryz.prog W 0 (fun _ => true) true 22 v d p) :
    ∃ fs, FilesV W v fs ∧ ∀ f ∈ fs, f.1.size ≤ 140737488355328 ∧ f.2.size ≤ 140737488355328 := by
  obtain ⟨fuel, hf⟩ := h
  rcases Deep.open_slice_pairs Tryz.underlying22 Tryz.underlying48 cells32 rfl rfl cells9' cells9' hf with ⟨h0, _⟩ | ⟨a, len, cap, m, n, V0, V1, D0, D1, P0, P1, h0, _, hlc, _, hm, hx, hall⟩
  · rw [hv1] at h0
    exact ⟨[], .inl ⟨by simpa using h0, rfl⟩, fun f hf => by cases hf⟩
  · rw [hv1] at h0
    have hv : v = .slice (some a) len cap := by simpa using h0
    by_cases hl : len = 0
    · subst hl
      exact ⟨[], .inr (.inl ⟨a, cap, hv, rfl⟩), fun f hf => by cases hf⟩
    · have hlm : len ≤ m := by rw [hm]; split <;> omega
      have each : ∀ i, i < len → ∃ f : FileB, W.cell? (a.add (i * 2)) = some (.string f.1) ∧ W.cell? (a.add (i * 2 + 1)) = some (.string f.2) ∧ f.1.size ≤ 140737488355328 ∧ f.2.size ≤ 140737488355328 := by
        intro i hi
        obtain ⟨c0, c1, t0, t1⟩ := hall i (by omega)
        obtain ⟨b0, e0, g0, _⟩ := DataW.trod_string Tryz.underlying9 t0
        obtain ⟨b1, e1, g1, _⟩ := DataW.trod_string Tryz.underlying9 t1
        simp only [List.cons.injEq, and_true] at e0 e1
        rw [e0] at c0
        rw [e1] at c1
        have hd : d = .slice ((List.range len).map fun i => .agg [D0 i, D1 i]) ((List.range (m - len)).map fun j => .agg [D0 (len + j), D1 (len + j)]) := congrArg Prod.fst hx
        have hmem : ∀ k, k ∈ (DataW.agg [D0 i, D1 i]).weights Tryz.prog 48 → k ≤ reachBytes := fun k hk => by
          have h1 : k ∈ d.weights Tryz.prog 22 := by
            rw [hd]
            simp only [DataW.weights, Tryz.underlying22]
            refine List.mem_cons_of_mem _ (List.mem_append.2 (.inl (weightsAll_mem (d := .agg [D0 i, D1 i]) (List.mem_map.2 ⟨i, List.mem_range.2 hi, rfl⟩) hk)))
          simpa using List.all_eq_true.1 hw _ (DataW.weights_mem_each htj hdj k h1)
        have k0 : D0 i = .lit (.string b0.data.toList) := congrArg Prod.fst g0
        have k1 : D1 i = .lit (.string b1.data.toList) := congrArg Prod.fst g1
        have s0 := hmem b0.size (by rw [Lib.size_eq]; simp [DataW.weights, DataW.weightsEach, Tryz.underlying48, k0])
        have s1 := hmem b1.size (by rw [Lib.size_eq]; simp [DataW.weights, DataW.weightsEach, Tryz.underlying48, k1])
        unfold reachBytes at s0 s1
        exact ⟨(b0, b1), c0, c1, (by show b0.size ≤ _; omega), (by show b1.size ≤ _; omega)⟩
      obtain ⟨F, hF⟩ := Deep.choose_lt each
      have ha : ∃ b off, a = ⟨b, off, none⟩ := by
        obtain ⟨c0, _⟩ := hF 0 (by omega)
        rcases a with ⟨b, off, x⟩
        cases x with
        | none => exact ⟨b, off, rfl⟩
        | some y =>
          simp [World.cell?, Addr.add] at c0
          split at c0 <;> cases c0
      obtain ⟨b, off, rfl⟩ := ha
      have hlen : ((List.range len).map F).length = len := by simp
      refine ⟨(List.range len).map F, .inr (.inr ⟨b, off, cap, by rw [hlen]; exact hv, ?_, by rw [hlen]; exact hlc⟩), ?_⟩
      · intro i hi
        rw [hlen] at hi
        obtain ⟨c0, c1, _⟩ := hF i hi
        simp only [List.getElem_map, List.getElem_range]
        rw [Addr.add_lit] at c0 c1
        exact ⟨c0, by rw [← Nat.add_assoc] at c1; exact c1⟩
      · intro f hf
        obtain ⟨i, hi, rfl⟩ := List.mem_map.1 hf
        exact (hF i (List.mem_range.1 hi)).2.2
end Go.Proofs.YtddoemeellbhaaaGreatDoor
