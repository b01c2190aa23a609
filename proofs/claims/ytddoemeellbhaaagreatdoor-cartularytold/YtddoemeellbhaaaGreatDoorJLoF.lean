/-
  Rows of files of the law's own; two objects held against each other.
  The law LooseOnly, walked.
  DERIVED: THE SHELF's CONTRACTS AT THIS DUMP, IN PLAIN WORDS (tools/lay-plain.mjs out of 'YtddoemeellbhaaaGreatDoorLoR.lean', which tools/lay-shelf.mjs wrote): THE SAME DECLARATIONS UNDER THE SAME NAMES: 'import', 'namespace', 'open', 'def', 'theorem' AND NOTHING ELSE: no command of the shelf's: FOR A HAND-IN. Each laying: the table of numbers ('.._ren') and one theorem, a field a fact of the dump's own or the kernel's comparison; each contract: ONE APPLICATION.
  Walks of loose: List.
-/
import Derived.Test.YtddoemeellbhaaaGreatDoorLoC
import Derived.Test.YtddoemeellbhaaaGreatDoorJTxtB
import Derived.Laws.StructEq
import Derived.Shelf.Strings.Replace
import Derived.Test.YtddoemeellbhaaaGreatDoorProg
namespace Go.Proofs.YtddoemeellbhaaaGreatDoor
open Go.RowKit

def flatF : List FileB → List Value
  | [] => []
  | f :: fs => .string f.1 :: .string f.2 :: flatF fs
theorem flatF_app (a b : List FileB) : flatF (a ++ b) = flatF a ++ flatF b := by
  induction a with
  | nil => rfl
  | cons f a ih => simp [flatF, ih]
theorem flatF_at (fs : List FileB) : ∀ i (h : i < fs.length), (flatF fs)[i * 2]? = some (.string fs[i].1) ∧ (flatF fs)[i * 2 + 1]? = some (.string fs[i].2) := by
  induction fs with
  | nil => intro i hi; cases hi
  | cons f fs ih =>
    intro i hi
    cases i with
    | zero => exact ⟨rfl, rfl⟩
    | succ i =>
      have h := ih i (by simpa using hi)
      rw [show (i + 1) * 2 = i * 2 + 1 + 1 by omega]
      simp only [flatF, List.getElem?_cons_succ, List.getElem_cons_succ]
      exact h
/-- files in a row that the call has made -/
def OwnR (V : World) (B : Nat) (v : Value) (fs : List FileB) : Prop := V.ownsRow B 48 2 v fs.length (flatF fs) ∧ v ≠ .slice none 0 0
theorem OwnR.shape {V : World} {B : Nat} {v : Value} {fs : List FileB} (h : OwnR V B v fs) : ∃ g cap, v = .slice (some ⟨g, 0, none⟩) fs.length cap ∧ fs.length ≤ cap ∧ B ≤ g ∧ g < V.heap.size ∧ FilesAt V g 0 fs := by
  rcases h.1.2 with ⟨hn, _⟩ | ⟨g, cap, cur, rfl, hbase, hbk, h1, h2, h3, h4⟩
  · exact absurd hn h.2
  · refine ⟨g, cap, rfl, h1, hbase, (Array.getElem?_eq_some_iff.1 hbk).1, fun i hi => ?_⟩
    obtain ⟨f0, f1⟩ := flatF_at fs i hi
    have hc : ∀ j u, (flatF fs)[j]? = some u → V.cell? ⟨g, 0 + j, none⟩ = some u := fun j u hj => by
      have := World.ownsRow.cells h.1 (g := g) rfl j u hj
      rw [Addr.add_lit] at this
      exact this
    exact ⟨hc _ _ f0, by rw [Nat.add_assoc]; exact hc _ _ f1⟩
theorem OwnR.more {V : World} {B : Nat} {v : Value} {fs : List FileB} {f : FileB} (h : V.ownsRow B 48 2 v (fs.length + 1) (flatF fs ++ [.string f.1, .string f.2])) (hn : v ≠ .slice none 0 0) : OwnR V B v (fs ++ [f]) := by
  refine ⟨?_, hn⟩
  rw [flatF_app, List.length_append]
  exact h
theorem OwnR.below {V W : World} {B : Nat} {v : Value} {fs : List FileB} (h : OwnR V B v fs) (hb : Below V.heap.size V W) : OwnR W B v fs :=
  ⟨h.1.kept (row := none) ⟨hb.os, hb.tape, hb.output, hb.size, fun k hk _ => hb.block k hk⟩ (by
    cases v.ownBlock with
    | none => exact .inl rfl
    | some k => exact .inr (by simp)), h.2⟩
theorem apart_eq {us : List FileB} (h : Apart us) {f g : FileB} (hf : f ∈ us) (hg : g ∈ us) (e : f.1 = g.1) : f = g := by
  induction us with
  | nil => cases hf
  | cons x us ih =>
    unfold Apart at h
    rw [List.pairwise_cons] at h
    rcases List.mem_cons.1 hf with hf1 | hf1 <;> rcases List.mem_cons.1 hg with hg1 | hg1
    · rw [hf1, hg1]
    · exact absurd (hf1 ▸ e) (h.1 g hg1)
    · exact absurd (hg1 ▸ e).symm (h.1 f hf1)
    · exact ih h.2 hf1 hg1
end Go.Proofs.YtddoemeellbhaaaGreatDoor
namespace Go.Proofs.YtddoemeellbhaaaGreatDoor
open Go.RowKit

end Go.Proofs.YtddoemeellbhaaaGreatDoor
namespace Go.Proofs
open Go.Shelf
def Tryz.rlays155_ren : Go.Shelf.Ren := ⟨fun | 155 => 49 | 154 => 90 | 138 => 142 | 165 => 143 | 143 => 144 | 166 => 119 | 197 => 145 | 169 => 120 | 195 => 184 | 218 => 185 | 240 => 165 | 241 => 186 | 219 => 183 | 260 => 187 | 276 => 205 | 277 => 225 | 217 => 221 | 225 => 222 | 224 => 223 | 267 => 224 | 266 => 247 | 314 => 248 | n => n, fun | 9 => 9 | 3 => 3 | 4 => 4 | 72 => 140 | 0 => 0 | 76 => 143 | 105 => 166 | 21 => 21 | 5 => 5 | 70 => 138 | 20 => 20 | 37 => 81 | 75 => 142 | 127 => 183 | 164 => 225 | 46 => 96 | 119 => 246 | 139 => 249 | 138 => 248 | 146 => 222 | 51 => 79 | 80 => 133 | n => n, fun | 1 => 0 | 3 => 2 | 4 => 3 | n => n⟩
theorem Tryz.rlays155 : Go.Proofs.Lays.n155 Tryz.prog Tryz.rlays155_ren := {
  mixed := by kernel_rfl
  f138 := Tryz.func142.trans (congrArg some (by kernel_rfl))
  f143 := Tryz.func144.trans (congrArg some (by kernel_rfl))
  f154 := Tryz.func90.trans (congrArg some (by kernel_rfl))
  f155 := Tryz.func49.trans (congrArg some (by kernel_rfl))
  f165 := Tryz.func143.trans (congrArg some (by kernel_rfl))
  f166 := Tryz.func119.trans (congrArg some (by kernel_rfl))
  f169 := Tryz.func120.trans (congrArg some (by kernel_rfl))
  f195 := Tryz.func184.trans (congrArg some (by kernel_rfl))
  f197 := Tryz.func145.trans (congrArg some (by kernel_rfl))
  f217 := Tryz.func221.trans (congrArg some (by kernel_rfl))
  f218 := Tryz.func185.trans (congrArg some (by kernel_rfl))
  f219 := Tryz.func183.trans (congrArg some (by kernel_rfl))
  f224 := Tryz.func223.trans (congrArg some (by kernel_rfl))
  f225 := Tryz.func222.trans (congrArg some (by kernel_rfl))
  f240 := Tryz.func165.trans (congrArg some (by kernel_rfl))
  f241 := Tryz.func186.trans (congrArg some (by kernel_rfl))
  f260 := Tryz.func187.trans (congrArg some (by kernel_rfl))
  f266 := Tryz.func247.trans (congrArg some (by kernel_rfl))
  f267 := Tryz.func224.trans (congrArg some (by kernel_rfl))
  f276 := Tryz.func205.trans (congrArg some (by kernel_rfl))
  f277 := Tryz.func225.trans (congrArg some (by kernel_rfl))
  f314 := Tryz.func248.trans (congrArg some (by kernel_rfl))
  t0 := Tryz.underlying0
  a0 := Tryz.isAgg0
  z0 := Tryz.sizeOf0
  v0 := Tryz.zeroValue0
  t3 := Tryz.underlying3
  a3 := Tryz.isAgg3
  z3 := Tryz.sizeOf3
  v3 := Tryz.zeroValue3
  t4 := Tryz.underlying4
  a4 := Tryz.isAgg4
  z4 := Tryz.sizeOf4
  v4 := Tryz.zeroValue4
  t5 := Tryz.underlying5
  a5 := Tryz.isAgg5
  z5 := Tryz.sizeOf5
  v5 := Tryz.zeroValue5
  t9 := Tryz.underlying9
  a9 := Tryz.isAgg9
  z9 := Tryz.sizeOf9
  v9 := Tryz.zeroValue9
  t20 := Tryz.underlying20
  a20 := Tryz.isAgg20
  z20 := Tryz.sizeOf20
  v20 := Tryz.zeroValue20
  t21 := Tryz.underlying21
  a21 := Tryz.isAgg21
  z21 := Tryz.sizeOf21
  v21 := Tryz.zeroValue21
  t37 := Tryz.underlying81
  a37 := Tryz.isAgg81
  z37 := Tryz.sizeOf81
  v37 := Tryz.zeroValue81
  t46 := Tryz.underlying96
  a46 := Tryz.isAgg96
  z46 := Tryz.sizeOf96
  v46 := Tryz.zeroValue96
  t51 := Tryz.underlying79
  a51 := Tryz.isAgg79
  z51 := Tryz.sizeOf79
  v51 := Tryz.zeroValue79
  t70 := Tryz.underlying138
  a70 := Tryz.isAgg138
  z70 := Tryz.sizeOf138
  v70 := Tryz.zeroValue138
  t72 := Tryz.underlying140
  a72 := Tryz.isAgg140
  z72 := Tryz.sizeOf140
  v72 := Tryz.zeroValue140
  t75 := Tryz.underlying142
  a75 := Tryz.isAgg142
  z75 := Tryz.sizeOf142
  v75 := Tryz.zeroValue142
  t76 := Tryz.underlying143
  a76 := Tryz.isAgg143
  z76 := Tryz.sizeOf143
  v76 := Tryz.zeroValue143
  t105 := Tryz.underlying166
  a105 := Tryz.isAgg166
  z105 := Tryz.sizeOf166
  v105 := Tryz.zeroValue166
  t119 := Tryz.underlying246
  a119 := Tryz.isAgg246
  z119 := Tryz.sizeOf246
  t127 := Tryz.underlying183
  a127 := Tryz.isAgg183
  z127 := Tryz.sizeOf183
  v127 := Tryz.zeroValue183
  t138 := Tryz.underlying248
  a138 := Tryz.isAgg248
  z138 := Tryz.sizeOf248
  v138 := Tryz.zeroValue248
  t139 := Tryz.underlying249
  a139 := Tryz.isAgg249
  z139 := Tryz.sizeOf249
  v139 := Tryz.zeroValue249
  t146 := Tryz.underlying222
  a146 := Tryz.isAgg222
  z146 := Tryz.sizeOf222
  v146 := Tryz.zeroValue222
  t164 := Tryz.underlying225
  a164 := Tryz.isAgg225
  z164 := Tryz.sizeOf225
  v164 := Tryz.zeroValue225
  g1 := by kernel_rfl
  g3 := by kernel_rfl
  g4 := by kernel_rfl }
theorem Tryz.rBuilder_Extra_155 : Builder.Extra Tryz.prog Tryz.rlays155_ren := {
  sizeBuilder := by kernel_rfl
  liesBuilder := by kernel_rfl
  t5 := Tryz.underlying5
  a5 := Tryz.isAgg5
  z5 := Tryz.sizeOf5
  v5 := Tryz.zeroValue5
  infoByte := by kernel_rfl
  cellsByte := by kernel_rfl
  sizeByte := by kernel_rfl
  neB5 := by decide }
open Go.RowKit Go.Lib in
/-- strings.ReplaceAll: "ReplaceAll returns a copy of the string s with all non-overlapping instances of old replaced by new.": AT AN old THAT IS NOT EMPTY: 'Lib.replaceAll s old new'. (LAID: no walk: one application.) -/
theorem Tryz.strings_ReplaceAll (s old new : ByteArray) (m : Int) (w : World) (hs : s.size < 4294967281) (hm : w.cell? ⟨0, 0, none⟩ = some (.int .i64 m)) (h1 : 1 ≤ old.size) (hlen : s.size + Lib.countB s old * new.size ≤ 140737488355328) :
    Calls Tryz.prog 49 #[.string s, .string old, .string new] w fun e w' =>
      e = .returned (.string ⟨(Lib.replaceAll s.data.toList old.data.toList new.data.toList).toArray⟩) ∧ Below w.heap.size w w' := Any.strings_ReplaceAll Tryz.rlays155 Tryz.rBuilder_Extra_155 s old new m w hs hm h1 hlen
end Go.Proofs
namespace Go.Proofs.YtddoemeellbhaaaGreatDoor
open Go.RowKit

/-- what is left of a text without its slashes -/
def noSlash (s : ByteArray) : ByteArray := ⟨(Lib.replaceAll s.data.toList [47] []).toArray⟩
theorem replaceK_len (k : Nat) : ∀ s : List UInt8, (Lib.replaceK [47] [] k s).length ≤ s.length := by
  induction k with
  | zero => intro s; exact Nat.le_refl _
  | succ k ih =>
    intro s
    unfold Lib.replaceK
    split
    · exact Nat.le_refl _
    · rw [List.length_append, List.length_append, List.length_take]
      have h := ih (s.drop ((Lib.index s [47]).toNat + [(47 : UInt8)].length))
      rw [List.length_drop] at h
      simp only [List.length_cons, List.length_nil] at h ⊢
      omega
theorem noSlash_size (s : ByteArray) : (noSlash s).size ≤ s.size := by
  show (Lib.replaceAll s.data.toList [47] []).toArray.size ≤ _
  rw [List.size_toArray, ← len_size s]
  unfold Lib.replaceAll Lib.replace
  split
  · exact Nat.le_refl _
  · exact replaceK_len _ _
/-- the library's own variable holds some number -/
def MI (w : World) : Prop := ∃ m, w.cell? ⟨0, 0, none⟩ = some (.int .i64 m)
theorem MI.below {w w' : World} (h : MI w) (hb : Below w.heap.size w w') : MI w' := by
  obtain ⟨m, hm⟩ := h
  exact ⟨m, (hb.cell (p := ⟨0, 0, none⟩) (World.block_lt_of_cell? _ _ hm)).trans hm⟩
theorem repl_any (s : ByteArray) (w : World) (hs : s.size ≤ 1000) (hm : MI w) :
    Calls Tryz.prog 49 #[.string s, .string ⟨#[47]⟩, .string ⟨#[]⟩] w fun e w' => e = .returned (.string (noSlash s)) ∧ Below w.heap.size w w' := by
  obtain ⟨m, hm⟩ := hm
  exact Tryz.strings_ReplaceAll s ⟨#[47]⟩ ⟨#[]⟩ m w (by omega) hm (by decide) (by show s.size + _ * 0 ≤ _; omega)
def objS : ByteArray := ⟨#[111, 98, 106, 101, 99, 116, 115, 47]⟩
theorem und_size {fs : List FileB} (hc : ∀ f ∈ fs, f.1.size ≤ 200) : ∀ p ∈ pathsL (undF fs objS), 8 ≤ p.size ∧ p.size ≤ 200 := by
  intro p hp
  unfold pathsL undF at hp
  obtain ⟨f, hf, rfl⟩ := List.mem_map.1 hp
  rw [List.mem_filter] at hf
  refine ⟨?_, hc f hf.1⟩
  have h := hf.2
  unfold beginsF Lib.hasPrefix at h
  have h2 := (List.isPrefixOf_iff_prefix.1 h).length_le
  rw [len_size, len_size] at h2
  exact h2
def lstep (p : ByteArray) : Option ByteArray := if idB (noSlash (p.extract 8 p.size)).data.toList = true ∧ pathB (noSlash (p.extract 8 p.size)) = p then some (noSlash (p.extract 8 p.size)) else none
def listL (ps : List ByteArray) : List ByteArray := ps.filterMap lstep
theorem listL_next {ps : List ByteArray} {k : Nat} (hk : k < ps.length) : listL (ps.take (k + 1)) = listL (ps.take k) ++ (match lstep ps[k] with | some x => [x] | none => []) := by
  unfold listL
  rw [List.take_add_one, List.getElem?_eq_getElem hk, List.filterMap_append]
  congr 1
  simp only [Option.toList_some, List.filterMap_cons, List.filterMap_nil]
  cases lstep ps[k] <;> rfl
set_option maxHeartbeats 4000000 in
set_option maxRecDepth 100000 in
theorem llist_any (q b off c : Nat) (fs : List FileB) (w : World) (hF : Folder w q b off c fs) (hl : fs.length ≤ 1000) (hr : Rise fs) (hc : ∀ f ∈ fs, f.1.size ≤ 200) (hM : MI w) :
    Calls Tryz.prog 20 #[.pointer (some ⟨q, 0, none⟩)] w fun e w' => SlRet w' w.heap.size (listL (pathsL (undF fs objS))) e ∧ Below w.heap.size w w' := by
  have HUN := hidM (Under_any q b off c fs objS w hF (by omega) hr)
  have HSZ := hidM (und_size hc)
  have hpl : (pathsL (undF fs objS)).length ≤ 1000 := by
    unfold pathsL undF
    rw [List.length_map]
    exact Nat.le_trans (List.length_filter_le _ _) hl
  have HM := hidM hM
  obtain ⟨i0, hi0, hz0, hz1, hz2⟩ := info_parts info9
  clear hF hr hc hM hl
  generalize pathsL (undF fs objS) = ps at *
  unfold objS at HUN
  have HTL : Hid (ps.take ps.length = ps) := by unfold Hid; rw [List.take_length]
  go_enter Tryz.func20, Tryz.ntmps20
  go_wp2_with fail
  refine HUN.out.mono ?_
  rintro _ w1 ⟨⟨v1, ho1, rfl⟩, hb1⟩
  have HB1 := hidM hb1
  have HM1 := hidM (HM.out.below hb1)
  have HO1 := hidM ho1
  clear hb1 ho1 HUN HM
  have HCE : Hid (∀ (V : World) (k : Nat) (hk : k < ps.length), Below w1.heap.size w1 V → ∃ g cap, v1 = .slice (some ⟨g, 0, none⟩) ps.length cap ∧ V.cell? ⟨g, k, none⟩ = some (.string ps[k])) := fun V k hk hV => by
    have h := HO1.out
    unfold OwnS at h
    rcases h.2 with ⟨_, h0⟩ | ⟨g, cap, cur, hv, _, hbk, _⟩
    · omega
    · have hx : (strsV ps)[k]? = some (.string ps[k]) := by unfold strsV; rw [List.getElem?_map, List.getElem?_eq_getElem hk]; rfl
      have hc := World.ownsRow.cells h (g := g) (by rw [hv]; rfl) k _ hx
      rw [Addr.add_lit, Nat.zero_add] at hc
      exact ⟨g, cap, hv, (hV.cell (p := ⟨g, k, none⟩) (Array.getElem?_eq_some_iff.1 hbk).1).trans hc⟩
  obtain ⟨a1, cap1, hv1⟩ : ∃ a1 cap1, v1 = .slice a1 ps.length cap1 := by
    have h := HO1.out
    unfold OwnS at h
    rcases h.2 with ⟨hn, h0⟩ | ⟨g, cap, cur, hv, _⟩
    · exact ⟨none, 0, by rw [hn, h0]⟩
    · exact ⟨_,_, hv⟩
  subst hv1
  clear HO1
  obtain ⟨len, hln⟩ : ∃ len, len = ps.length := ⟨_, rfl⟩
  rw [← hln] at hpl HTL ⊢
  have HL := hidM hln
  clear hln
  go_wp2
  go_loopw [3, 5, 6, 7, 8, 12] (fun lv _ _ _ _ iv wr => ∃ k : Nat, k ≤ len ∧ iv = .int .i64 (k : Int) ∧ OwnS wr w1.heap.size lv (listL (ps.take k)) ∧ Below w1.heap.size w1 wr) (fun _ _ _ _ _ iv _ => len - (intOf iv).toNat)
  case atStart => exact ⟨0, Nat.zero_le _, rfl, World.ownsRow_nil _ _ _ _, Below.refl _ _⟩
  case round =>
    obtain ⟨k, hk, rfl, hown, hbel⟩ := hrel
    have HO := hidM hown
    have HW := hidM hbel
    have HMr := hidM (HM1.out.below hbel)
    clear hown hbel
    by_cases hlt : k < len
    · have hku : k < ps.length := by rw [← HL.out]; exact hlt
      obtain ⟨g, cap, hv, x0⟩ := HCE.out wr k hku HW.out
      simp only [Value.slice.injEq] at hv
      obtain ⟨rfl, -, rfl⟩ := hv
      obtain ⟨z1, z2⟩ := HSZ.out ps[k] (List.getElem_mem hku)
      have HNX := hidM (listL_next hku)
      have hll : (listL (ps.take k)).length ≤ 1000 := by
        have h1 : (listL (ps.take k)).length ≤ (ps.take k).length := List.length_filterMap_le _ _
        rw [List.length_take] at h1
        omega
      generalize ps[k] = p at *
      have c8 : (8 : Int) ≤ (p.size : Int) := by omega
      have HRP := hidM (fun V (hV : MI V) => repl_any (p.extract 8 p.size) V (by rw [ByteArray.size_extract]; omega) hV)
      have hns := noSlash_size (p.extract 8 p.size)
      rw [ByteArray.size_extract] at hns
      have HLS : Hid (lstep p = if idB (noSlash (p.extract 8 p.size)).data.toList = true ∧ pathB (noSlash (p.extract 8 p.size)) = p then some (noSlash (p.extract 8 p.size)) else none) := rfl
      generalize noSlash (p.extract 8 p.size) = id at *
      have HPA := hidM (fun V => lpath_any id V (by unfold maxLen; omega))
      go_wp2_with fail
      refine (HRP.out _ HMr.out).mono ?_
      rintro _ w2 ⟨rfl, hb2⟩
      have HW2 := hidM (HW.out.trans (hb2.mono HW.out.size))
      have HO2 : Hid (OwnS w2 w1.heap.size u3 (listL (ps.take k))) := HO.out.kept (row := none) ⟨hb2.os, hb2.tape, hb2.output, hb2.size, fun k hk _ => hb2.block k hk⟩ (by
        cases u3.ownBlock with
        | none => exact .inl rfl
        | some k => exact .inr (by simp))
      clear hb2 HRP HO HW
      go_wp2_with fail
      refine (HPA.out _).mono ?_
      rintro _ w3 ⟨rfl, hb3⟩
      have HW3 := hidM (HW2.out.trans (hb3.mono HW2.out.size))
      have HO3 : Hid (OwnS w3 w1.heap.size u3 (listL (ps.take k))) := HO2.out.kept (row := none) ⟨hb3.os, hb3.tape, hb3.output, hb3.size, fun k hk _ => hb3.block k hk⟩ (by
        cases u3.ownBlock with
        | none => exact .inl rfl
        | some k => exact .inr (by simp))
      clear hb3 HPA HO2 HW2
      by_cases hi : idB id.data.toList = true
      · have hp : pathR id = (pathB id, 0) := by unfold pathR; rw [if_pos hi]
        rw [hp]
        clear hp
        by_cases he : pathB id = p
        · have b1 : ((pathB id).toList == p.toList) = true := by rw [he]; simp
          rw [if_pos ⟨hi, he⟩] at HLS
          rw [HLS.out] at HNX
          simp only at HNX
          clear hi he HLS
          generalize pathB id = PB at *
          obtain ⟨o2, ho2⟩ : ∃ o2, o2 = listL (ps.take (k + 1)) := ⟨_, rfl⟩
          rw [← ho2] at HNX
          have HQ2 := hidM ho2
          clear ho2
          have HMK := hidM (fun (V : World) (x : Value) (h : V.ownsRow w1.heap.size 9 1 x ((listL (ps.take k)).length + 1) (strsV (listL (ps.take k)) ++ [.string id])) => OwnS.push h)
          rw [← HNX.out] at HMK
          have HOB : Hid (w3.ownsRow w1.heap.size 9 1 u3 (listL (ps.take k)).length (strsV (listL (ps.take k)))) := HO3.out
          generalize strsV (listL (ps.take k)) = sv at *
          generalize (listL (ps.take k)).length = ln at *
          go_wp2_with (at_builtin; refine wpList_append_own _ rfl _ _ 43 rfl w1.heap.size 9 i0 (.string .empty) 1 16 Tryz.underlying43 hi0 hz0 hz1 hz2 rfl (by decide) _ _ _ rfl (World.ownsRow.alloc HOB.out _) ⟨_, 0, none⟩ 1 1 [.string id] rfl rfl ?qc2 ?qc3 ?qc4 ?qc5 ?qc6 ?_)
          case qc2 => intro j y hj; rcases j with _ | j <;> simp at hj; subst hj; rw [Addr.add_lit]; simp
          case qc3 => intro u hu; simp at hu; subst hu; rfl
          case qc4 => unfold maxLen; omega
          case qc5 => omega
          case qc6 => have := HW3.out.size; simp at this ⊢; omega
          intro v' w5 hown' hgrow hnil
          have HO5 := hidM (HMK.out _ _ hown')
          have HB5 : Hid (Below w1.heap.size w1 w5) := (HW3.out.alloc HW3.out.size _).grown hgrow (by have := HW3.out.size; simp at this ⊢; omega) (fun g hg => (HOB.out.lt g hg).1)
          clear hown' hgrow hnil HMK HOB
          go_wp2
          go_roundw
          case rel => exact ⟨k + 1, by omega, by go_num, by rw [← HQ2.out]; exact HO5.out, HB5.out⟩
          case measure => simp [intOf]; omega
        · have b1 := bytes_ne he
          rw [if_neg (fun h => he h.2)] at HLS
          rw [HLS.out] at HNX
          simp only [List.append_nil] at HNX
          clear hi he HLS
          generalize pathB id = PB at *
          go_wp2
          go_roundw
          case rel => exact ⟨k + 1, by omega, by go_num, by rw [HNX.out]; exact HO3.out, HW3.out⟩
          case measure => simp [intOf]; omega
      · have hp : pathR id = (⟨#[]⟩, 4) := by unfold pathR; rw [if_neg hi]
        rw [hp]
        rw [if_neg (fun h => hi h.1)] at HLS
        rw [HLS.out] at HNX
        simp only [List.append_nil] at HNX
        clear hp hi HLS
        go_wp2
        go_roundw
        case rel => exact ⟨k + 1, by omega, by go_num, by rw [HNX.out]; exact HO3.out, HW3.out⟩
        case measure => simp [intOf]; omega
    · obtain rfl : k = len := by omega
      have hks := HB1.out.size
      have HRES : Hid (OwnS wr w.heap.size u3 (listL ps)) := by
        have h := HO.out
        rw [HTL.out] at h
        refine ⟨h.1, ?_⟩
        rcases h.2 with h0 | ⟨g, cap, cur, hv, hbs, r⟩
        · exact .inl h0
        · exact .inr ⟨g, cap, cur, hv, by omega, r⟩
      have HBF := hidM (HB1.out.trans (HW.out.mono HB1.out.size))
      go_wp2
      go_ret
      exact ⟨⟨_, HRES.out, rfl⟩, HBF.out⟩
end Go.Proofs.YtddoemeellbhaaaGreatDoor
