/-
  Rows of files of the law's own; two objects held against each other.
  The law LooseOnly, walked.
  DERIVED: THE SHELF's CONTRACTS AT THIS DUMP, IN PLAIN WORDS (tools/lay-plain.mjs out of 'YtddoemeellbhaaaGreatDoorLoR.lean', which tools/lay-shelf.mjs wrote): THE SAME DECLARATIONS UNDER THE SAME NAMES: 'import', 'namespace', 'open', 'def', 'theorem' AND NOTHING ELSE: no command of the shelf's: FOR A HAND-IN. Each laying: the table of numbers ('.._ren') and one theorem, a field a fact of the dump's own or the kernel's comparison; each contract: ONE APPLICATION.
  Walks of loose: List.
  The law LooseSure, walked.
  The document's answers of snap, which look files up and tell paths, and two lists held against each other: taken over from the seat of snap.
-/
import Derived.Test.YtddoemeellbhaaaGreatDoorJLoC
import Derived.Test.YtddoemeellbhaaaGreatDoorJTxtB
import Derived.Laws.StructEq
import Derived.Shelf.Strings.Replace
import Derived.Test.YtddoemeellbhaaaGreatDoorProg
import Derived.Laws.OwnMore
namespace Go.Proofs.YtddoemeellbhaaaGreatDoor
open Go.RowKit

def flatF : List FileB → List Value
  | [] => []
  | f :: fs => .string f.1 :: .string f.2 :: flatF fs
theorem flatF_app (a b : List FileB) : flatF (a ++ b) = flatF a ++ flatF b := by
  induction a with
  | nil => rfl
  | cons f a ih => simp [flatF, ih]
theorem flatF_at (fs : List FileB) : ∀ i (h : i < fs.length), (flatF fs)[i * 2]? = some (.string fs[i].1) ∧ (flatF fs)[i * 2 + 1]? = some (.string fs[i].2) := by
  induction fs with
  | nil => intro i hi; cases hi
  | cons f fs ih =>
    intro i hi
    cases i with
    | zero => exact ⟨rfl, rfl⟩
    | succ i =>
      have h := ih i (by simpa using hi)
      rw [show (i + 1) * 2 = i * 2 + 1 + 1 by omega]
      simp only [flatF, List.getElem?_cons_succ, List.getElem_cons_succ]
      exact h
/-- files in a row that the call has made -/
def OwnR (V : World) (B : Nat) (v : Value) (fs : List FileB) : Prop := V.ownsRow B 48 2 v fs.length (flatF fs) ∧ v ≠ .slice none 0 0
theorem OwnR.shape {V : World} {B : Nat} {v : Value} {fs : List FileB} (h : OwnR V B v fs) : ∃ g cap, v = .slice (some ⟨g, 0, none⟩) fs.length cap ∧ fs.length ≤ cap ∧ B ≤ g ∧ g < V.heap.size ∧ FilesAt V g 0 fs := by
  rcases h.1.2 with ⟨hn, _⟩ | ⟨g, cap, cur, rfl, hbase, hbk, h1, h2, h3, h4⟩
  · exact absurd hn h.2
  · refine ⟨g, cap, rfl, h1, hbase, (Array.getElem?_eq_some_iff.1 hbk).1, fun i hi => ?_⟩
    obtain ⟨f0, f1⟩ := flatF_at fs i hi
    have hc : ∀ j u, (flatF fs)[j]? = some u → V.cell? ⟨g, 0 + j, none⟩ = some u := fun j u hj => by
      have := World.ownsRow.cells h.1 (g := g) rfl j u hj
      rw [Addr.add_lit] at this
      exact this
    exact ⟨hc _ _ f0, by rw [Nat.add_assoc]; exact hc _ _ f1⟩
theorem OwnR.more {V : World} {B : Nat} {v : Value} {fs : List FileB} {f : FileB} (h : V.ownsRow B 48 2 v (fs.length + 1) (flatF fs ++ [.string f.1, .string f.2])) (hn : v ≠ .slice none 0 0) : OwnR V B v (fs ++ [f]) := by
  refine ⟨?_, hn⟩
  rw [flatF_app, List.length_append]
  exact h
theorem OwnR.below {V W : World} {B : Nat} {v : Value} {fs : List FileB} (h : OwnR V B v fs) (hb : Below V.heap.size V W) : OwnR W B v fs :=
  ⟨h.1.kept (row := none) ⟨hb.os, hb.tape, hb.output, hb.size, fun k hk _ => hb.block k hk⟩ (by
    cases v.ownBlock with
    | none => exact .inl rfl
    | some k => exact .inr (by simp)), h.2⟩
theorem held32 : Tryz.prog.stoodInHeld 32 = false := by kernel_rfl
theorem guard32 : Tryz.prog.eqGuardType Tryz.prog.depth 32 = false := by kernel_rfl
theorem struct32 : Tryz.prog.underlying 32 = some (.struct (Tryz.prog.fieldsOf 32)) := by kernel_rfl
theorem fields32 : (Tryz.prog.fieldsOf 32).toList.map (fun f => (f.name, f.type, f.offset)) = [("Kind", 3, 0), ("Data", 9, 1)] := by kernel_rfl
theorem equal32 (m1 : Int) (n1 : ByteArray) (w : World) :
    (Op.equalIn 10000 32 (.agg #[.int .i64 m1, .string n1]) (.agg #[.int .i64 m1, .string n1])).run Tryz.prog w = .ok true w := by
  rw [run_equalIn_struct w 9999 32 _ _ struct32 held32]
  have hf := fields32
  obtain ⟨f1, f2, he⟩ : ∃ f1 f2, (Tryz.prog.fieldsOf 32).toList = [f1, f2] := by
    generalize (Tryz.prog.fieldsOf 32).toList = fl at hf
    rcases fl with _ | ⟨f1, _ | ⟨f2, _ | ⟨f3, fl⟩⟩⟩
    · simp at hf
    · simp at hf
    · exact ⟨f1, f2, rfl⟩
    · simp at hf
  rw [he] at hf ⊢
  simp only [List.map_cons, List.map_nil, List.cons.injEq, Prod.mk.injEq, and_true] at hf
  obtain ⟨⟨a1, a2, a3⟩, ⟨b1, b2, b3⟩⟩ := hf
  have p1 : ∀ (m : Int) (n : ByteArray) (w : World), (part 3 #[.int .i64 m, .string n] 0).run Tryz.prog w = .ok (.int .i64 m) w := by intro m n w; kernel_rfl
  have p2 : ∀ (m : Int) (n : ByteArray) (w : World), (part 9 #[.int .i64 m, .string n] 1).run Tryz.prog w = .ok (.string n) w := by intro m n w; kernel_rfl
  simp only [Op.eqFields, a1, a2, a3, b1, b2, b3, Sem.run_ite, Sem.run_bind, p1, p2, Result.andThen_ok, ne_eq, String.reduceEq, not_false_eq_true, if_true]
  rw [run_equalIn_int w 9998 3 .i64 .i64 m1 m1 Tryz.underlying3]
  simp only [Result.andThen_ok, beq_self_eq_true, Bool.not_true, Bool.false_eq_true, if_false]
  rw [run_equalIn_string w 9998 9 n1 n1 Tryz.underlying9]
  simp
theorem sizeF_le400 {us : List FileB} (h : ∀ f ∈ us, f.2.size ≤ 400) : sizeF us ≤ 400 * us.length := by
  induction us with
  | nil => simp [sizeF]
  | cons f us ih =>
    have h1 := h f (by simp)
    have h2 := ih (fun g hg => h g (by simp [hg]))
    unfold sizeF at h2 ⊢
    simp only [List.map_cons, List.sum_cons, List.length_cons]
    omega
theorem apart_eq {us : List FileB} (h : Apart us) {f g : FileB} (hf : f ∈ us) (hg : g ∈ us) (e : f.1 = g.1) : f = g := by
  induction us with
  | nil => cases hf
  | cons x us ih =>
    unfold Apart at h
    rw [List.pairwise_cons] at h
    rcases List.mem_cons.1 hf with hf1 | hf1 <;> rcases List.mem_cons.1 hg with hg1 | hg1
    · rw [hf1, hg1]
    · exact absurd (hf1 ▸ e) (h.1 g hg1)
    · exact absurd (hg1 ▸ e).symm (h.1 f hf1)
    · exact ih h.2 hf1 hg1
end Go.Proofs.YtddoemeellbhaaaGreatDoor
namespace Go.Proofs.YtddoemeellbhaaaGreatDoor
open Go.RowKit

end Go.Proofs.YtddoemeellbhaaaGreatDoor
namespace Go.Proofs
open Go.Shelf
def Tryz.rlays155_ren : Go.Shelf.Ren := ⟨fun | 155 => 49 | 154 => 90 | 138 => 142 | 165 => 143 | 143 => 144 | 166 => 119 | 197 => 145 | 169 => 120 | 195 => 184 | 218 => 185 | 240 => 165 | 241 => 186 | 219 => 183 | 260 => 187 | 276 => 205 | 277 => 225 | 217 => 221 | 225 => 222 | 224 => 223 | 267 => 224 | 266 => 247 | 314 => 248 | n => n, fun | 9 => 9 | 3 => 3 | 4 => 4 | 72 => 140 | 0 => 0 | 76 => 143 | 105 => 166 | 21 => 21 | 5 => 5 | 70 => 138 | 20 => 20 | 37 => 81 | 75 => 142 | 127 => 183 | 164 => 225 | 46 => 96 | 119 => 246 | 139 => 249 | 138 => 248 | 146 => 222 | 51 => 79 | 80 => 133 | n => n, fun | 1 => 0 | 3 => 2 | 4 => 3 | n => n⟩
theorem Tryz.rlays155 : Go.Proofs.Lays.n155 Tryz.prog Tryz.rlays155_ren := {
  mixed := by kernel_rfl
  f138 := Tryz.func142.trans (congrArg some (by kernel_rfl))
  f143 := Tryz.func144.trans (congrArg some (by kernel_rfl))
  f154 := Tryz.func90.trans (congrArg some (by kernel_rfl))
  f155 := Tryz.func49.trans (congrArg some (by kernel_rfl))
  f165 := Tryz.func143.trans (congrArg some (by kernel_rfl))
  f166 := Tryz.func119.trans (congrArg some (by kernel_rfl))
  f169 := Tryz.func120.trans (congrArg some (by kernel_rfl))
  f195 := Tryz.func184.trans (congrArg some (by kernel_rfl))
  f197 := Tryz.func145.trans (congrArg some (by kernel_rfl))
  f217 := Tryz.func221.trans (congrArg some (by kernel_rfl))
  f218 := Tryz.func185.trans (congrArg some (by kernel_rfl))
  f219 := Tryz.func183.trans (congrArg some (by kernel_rfl))
  f224 := Tryz.func223.trans (congrArg some (by kernel_rfl))
  f225 := Tryz.func222.trans (congrArg some (by kernel_rfl))
  f240 := Tryz.func165.trans (congrArg some (by kernel_rfl))
  f241 := Tryz.func186.trans (congrArg some (by kernel_rfl))
  f260 := Tryz.func187.trans (congrArg some (by kernel_rfl))
  f266 := Tryz.func247.trans (congrArg some (by kernel_rfl))
  f267 := Tryz.func224.trans (congrArg some (by kernel_rfl))
  f276 := Tryz.func205.trans (congrArg some (by kernel_rfl))
  f277 := Tryz.func225.trans (congrArg some (by kernel_rfl))
  f314 := Tryz.func248.trans (congrArg some (by kernel_rfl))
  t0 := Tryz.underlying0
  a0 := Tryz.isAgg0
  z0 := Tryz.sizeOf0
  v0 := Tryz.zeroValue0
  t3 := Tryz.underlying3
  a3 := Tryz.isAgg3
  z3 := Tryz.sizeOf3
  v3 := Tryz.zeroValue3
  t4 := Tryz.underlying4
  a4 := Tryz.isAgg4
  z4 := Tryz.sizeOf4
  v4 := Tryz.zeroValue4
  t5 := Tryz.underlying5
  a5 := Tryz.isAgg5
  z5 := Tryz.sizeOf5
  v5 := Tryz.zeroValue5
  t9 := Tryz.underlying9
  a9 := Tryz.isAgg9
  z9 := Tryz.sizeOf9
  v9 := Tryz.zeroValue9
  t20 := Tryz.underlying20
  a20 := Tryz.isAgg20
  z20 := Tryz.sizeOf20
  v20 := Tryz.zeroValue20
  t21 := Tryz.underlying21
  a21 := Tryz.isAgg21
  z21 := Tryz.sizeOf21
  v21 := Tryz.zeroValue21
  t37 := Tryz.underlying81
  a37 := Tryz.isAgg81
  z37 := Tryz.sizeOf81
  v37 := Tryz.zeroValue81
  t46 := Tryz.underlying96
  a46 := Tryz.isAgg96
  z46 := Tryz.sizeOf96
  v46 := Tryz.zeroValue96
  t51 := Tryz.underlying79
  a51 := Tryz.isAgg79
  z51 := Tryz.sizeOf79
  v51 := Tryz.zeroValue79
  t70 := Tryz.underlying138
  a70 := Tryz.isAgg138
  z70 := Tryz.sizeOf138
  v70 := Tryz.zeroValue138
  t72 := Tryz.underlying140
  a72 := Tryz.isAgg140
  z72 := Tryz.sizeOf140
  v72 := Tryz.zeroValue140
  t75 := Tryz.underlying142
  a75 := Tryz.isAgg142
  z75 := Tryz.sizeOf142
  v75 := Tryz.zeroValue142
  t76 := Tryz.underlying143
  a76 := Tryz.isAgg143
  z76 := Tryz.sizeOf143
  v76 := Tryz.zeroValue143
  t105 := Tryz.underlying166
  a105 := Tryz.isAgg166
  z105 := Tryz.sizeOf166
  v105 := Tryz.zeroValue166
  t119 := Tryz.underlying246
  a119 := Tryz.isAgg246
  z119 := Tryz.sizeOf246
  t127 := Tryz.underlying183
  a127 := Tryz.isAgg183
  z127 := Tryz.sizeOf183
  v127 := Tryz.zeroValue183
  t138 := Tryz.underlying248
  a138 := Tryz.isAgg248
  z138 := Tryz.sizeOf248
  v138 := Tryz.zeroValue248
  t139 := Tryz.underlying249
  a139 := Tryz.isAgg249
  z139 := Tryz.sizeOf249
  v139 := Tryz.zeroValue249
  t146 := Tryz.underlying222
  a146 := Tryz.isAgg222
  z146 := Tryz.sizeOf222
  v146 := Tryz.zeroValue222
  t164 := Tryz.underlying225
  a164 := Tryz.isAgg225
  z164 := Tryz.sizeOf225
  v164 := Tryz.zeroValue225
  g1 := by kernel_rfl
  g3 := by kernel_rfl
  g4 := by kernel_rfl }
theorem Tryz.rBuilder_Extra_155 : Builder.Extra Tryz.prog Tryz.rlays155_ren := {
  sizeBuilder := by kernel_rfl
  liesBuilder := by kernel_rfl
  t5 := Tryz.underlying5
  a5 := Tryz.isAgg5
  z5 := Tryz.sizeOf5
  v5 := Tryz.zeroValue5
  infoByte := by kernel_rfl
  cellsByte := by kernel_rfl
  sizeByte := by kernel_rfl
  neB5 := by decide }
open Go.RowKit Go.Lib in
/-- strings.ReplaceAll: "ReplaceAll returns a copy of the string s with all non-overlapping instances of old replaced by new.": AT AN old THAT IS NOT EMPTY: 'Lib.replaceAll s old new'. (LAID: no walk: one application.) -/
theorem Tryz.strings_ReplaceAll (s old new : ByteArray) (m : Int) (w : World) (hs : s.size < 4294967281) (hm : w.cell? ⟨0, 0, none⟩ = some (.int .i64 m)) (h1 : 1 ≤ old.size) (hlen : s.size + Lib.countB s old * new.size ≤ 140737488355328) :
    Calls Tryz.prog 49 #[.string s, .string old, .string new] w fun e w' =>
      e = .returned (.string ⟨(Lib.replaceAll s.data.toList old.data.toList new.data.toList).toArray⟩) ∧ Below w.heap.size w w' := Any.strings_ReplaceAll Tryz.rlays155 Tryz.rBuilder_Extra_155 s old new m w hs hm h1 hlen
end Go.Proofs
namespace Go.Proofs.YtddoemeellbhaaaGreatDoor
open Go.RowKit

/-- what is left of a text without its slashes -/
def noSlash (s : ByteArray) : ByteArray := ⟨(Lib.replaceAll s.data.toList [47] []).toArray⟩
theorem replaceK_len (k : Nat) : ∀ s : List UInt8, (Lib.replaceK [47] [] k s).length ≤ s.length := by
  induction k with
  | zero => intro s; exact Nat.le_refl _
  | succ k ih =>
    intro s
    unfold Lib.replaceK
    split
    · exact Nat.le_refl _
    · rw [List.length_append, List.length_append, List.length_take]
      have h := ih (s.drop ((Lib.index s [47]).toNat + [(47 : UInt8)].length))
      rw [List.length_drop] at h
      simp only [List.length_cons, List.length_nil] at h ⊢
      omega
theorem noSlash_size (s : ByteArray) : (noSlash s).size ≤ s.size := by
  show (Lib.replaceAll s.data.toList [47] []).toArray.size ≤ _
  rw [List.size_toArray, ← len_size s]
  unfold Lib.replaceAll Lib.replace
  split
  · exact Nat.le_refl _
  · exact replaceK_len _ _
/-- the library's own variable holds some number -/
def MI (w : World) : Prop := ∃ m, w.cell? ⟨0, 0, none⟩ = some (.int .i64 m)
theorem MI.below {w w' : World} (h : MI w) (hb : Below w.heap.size w w') : MI w' := by
  obtain ⟨m, hm⟩ := h
  exact ⟨m, (hb.cell (p := ⟨0, 0, none⟩) (World.block_lt_of_cell? _ _ hm)).trans hm⟩
theorem repl_any (s : ByteArray) (w : World) (hs : s.size ≤ 1000) (hm : MI w) :
    Calls Tryz.prog 49 #[.string s, .string ⟨#[47]⟩, .string ⟨#[]⟩] w fun e w' => e = .returned (.string (noSlash s)) ∧ Below w.heap.size w w' := by
  obtain ⟨m, hm⟩ := hm
  exact Tryz.strings_ReplaceAll s ⟨#[47]⟩ ⟨#[]⟩ m w (by omega) hm (by decide) (by show s.size + _ * 0 ≤ _; omega)
def objS : ByteArray := ⟨#[111, 98, 106, 101, 99, 116, 115, 47]⟩
theorem und_size {fs : List FileB} (hc : ∀ f ∈ fs, f.1.size ≤ 200) : ∀ p ∈ pathsL (undF fs objS), 8 ≤ p.size ∧ p.size ≤ 200 := by
  intro p hp
  unfold pathsL undF at hp
  obtain ⟨f, hf, rfl⟩ := List.mem_map.1 hp
  rw [List.mem_filter] at hf
  refine ⟨?_, hc f hf.1⟩
  have h := hf.2
  unfold beginsF Lib.hasPrefix at h
  have h2 := (List.isPrefixOf_iff_prefix.1 h).length_le
  rw [len_size, len_size] at h2
  exact h2
def lstep (p : ByteArray) : Option ByteArray := if idB (noSlash (p.extract 8 p.size)).data.toList = true ∧ pathB (noSlash (p.extract 8 p.size)) = p then some (noSlash (p.extract 8 p.size)) else none
def listL (ps : List ByteArray) : List ByteArray := ps.filterMap lstep
theorem listL_next {ps : List ByteArray} {k : Nat} (hk : k < ps.length) : listL (ps.take (k + 1)) = listL (ps.take k) ++ (match lstep ps[k] with | some x => [x] | none => []) := by
  unfold listL
  rw [List.take_add_one, List.getElem?_eq_getElem hk, List.filterMap_append]
  congr 1
  simp only [Option.toList_some, List.filterMap_cons, List.filterMap_nil]
  cases lstep ps[k] <;> rfl
set_option maxHeartbeats 4000000 in
set_option maxRecDepth 100000 in
theorem llist_any (q b off c : Nat) (fs : List FileB) (w : World) (hF : Folder w q b off c fs) (hl : fs.length ≤ 1000) (hr : Rise fs) (hc : ∀ f ∈ fs, f.1.size ≤ 200) (hM : MI w) :
    Calls Tryz.prog 20 #[.pointer (some ⟨q, 0, none⟩)] w fun e w' => SlRet w' w.heap.size (listL (pathsL (undF fs objS))) e ∧ Below w.heap.size w w' := by
  have HUN := hidM (Under_any q b off c fs objS w hF (by omega) hr)
  have HSZ := hidM (und_size hc)
  have hpl : (pathsL (undF fs objS)).length ≤ 1000 := by
    unfold pathsL undF
    rw [List.length_map]
    exact Nat.le_trans (List.length_filter_le _ _) hl
  have HM := hidM hM
  obtain ⟨i0, hi0, hz0, hz1, hz2⟩ := info_parts info9
  clear hF hr hc hM hl
  generalize pathsL (undF fs objS) = ps at *
  unfold objS at HUN
  have HTL : Hid (ps.take ps.length = ps) := by unfold Hid; rw [List.take_length]
  go_enter Tryz.func20, Tryz.ntmps20
  go_wp2_with fail
  refine HUN.out.mono ?_
  rintro _ w1 ⟨⟨v1, ho1, rfl⟩, hb1⟩
  have HB1 := hidM hb1
  have HM1 := hidM (HM.out.below hb1)
  have HO1 := hidM ho1
  clear hb1 ho1 HUN HM
  have HCE : Hid (∀ (V : World) (k : Nat) (hk : k < ps.length), Below w1.heap.size w1 V → ∃ g cap, v1 = .slice (some ⟨g, 0, none⟩) ps.length cap ∧ V.cell? ⟨g, k, none⟩ = some (.string ps[k])) := fun V k hk hV => by
    have h := HO1.out
    unfold OwnS at h
    rcases h.2 with ⟨_, h0⟩ | ⟨g, cap, cur, hv, _, hbk, _⟩
    · omega
    · have hx : (strsV ps)[k]? = some (.string ps[k]) := by unfold strsV; rw [List.getElem?_map, List.getElem?_eq_getElem hk]; rfl
      have hc := World.ownsRow.cells h (g := g) (by rw [hv]; rfl) k _ hx
      rw [Addr.add_lit, Nat.zero_add] at hc
      exact ⟨g, cap, hv, (hV.cell (p := ⟨g, k, none⟩) (Array.getElem?_eq_some_iff.1 hbk).1).trans hc⟩
  obtain ⟨a1, cap1, hv1⟩ : ∃ a1 cap1, v1 = .slice a1 ps.length cap1 := by
    have h := HO1.out
    unfold OwnS at h
    rcases h.2 with ⟨hn, h0⟩ | ⟨g, cap, cur, hv, _⟩
    · exact ⟨none, 0, by rw [hn, h0]⟩
    · exact ⟨_,_, hv⟩
  subst hv1
  clear HO1
  obtain ⟨len, hln⟩ : ∃ len, len = ps.length := ⟨_, rfl⟩
  rw [← hln] at hpl HTL ⊢
  have HL := hidM hln
  clear hln
  go_wp2
  go_loopw [3, 5, 6, 7, 8, 12] (fun lv _ _ _ _ iv wr => ∃ k : Nat, k ≤ len ∧ iv = .int .i64 (k : Int) ∧ OwnS wr w1.heap.size lv (listL (ps.take k)) ∧ Below w1.heap.size w1 wr) (fun _ _ _ _ _ iv _ => len - (intOf iv).toNat)
  case atStart => exact ⟨0, Nat.zero_le _, rfl, World.ownsRow_nil _ _ _ _, Below.refl _ _⟩
  case round =>
    obtain ⟨k, hk, rfl, hown, hbel⟩ := hrel
    have HO := hidM hown
    have HW := hidM hbel
    have HMr := hidM (HM1.out.below hbel)
    clear hown hbel
    by_cases hlt : k < len
    · have hku : k < ps.length := by rw [← HL.out]; exact hlt
      obtain ⟨g, cap, hv, x0⟩ := HCE.out wr k hku HW.out
      simp only [Value.slice.injEq] at hv
      obtain ⟨rfl, -, rfl⟩ := hv
      obtain ⟨z1, z2⟩ := HSZ.out ps[k] (List.getElem_mem hku)
      have HNX := hidM (listL_next hku)
      have hll : (listL (ps.take k)).length ≤ 1000 := by
        have h1 : (listL (ps.take k)).length ≤ (ps.take k).length := List.length_filterMap_le _ _
        rw [List.length_take] at h1
        omega
      generalize ps[k] = p at *
      have c8 : (8 : Int) ≤ (p.size : Int) := by omega
      have HRP := hidM (fun V (hV : MI V) => repl_any (p.extract 8 p.size) V (by rw [ByteArray.size_extract]; omega) hV)
      have hns := noSlash_size (p.extract 8 p.size)
      rw [ByteArray.size_extract] at hns
      have HLS : Hid (lstep p = if idB (noSlash (p.extract 8 p.size)).data.toList = true ∧ pathB (noSlash (p.extract 8 p.size)) = p then some (noSlash (p.extract 8 p.size)) else none) := rfl
      generalize noSlash (p.extract 8 p.size) = id at *
      have HPA := hidM (fun V => lpath_any id V (by unfold maxLen; omega))
      go_wp2_with fail
      refine (HRP.out _ HMr.out).mono ?_
      rintro _ w2 ⟨rfl, hb2⟩
      have HW2 := hidM (HW.out.trans (hb2.mono HW.out.size))
      have HO2 : Hid (OwnS w2 w1.heap.size u3 (listL (ps.take k))) := HO.out.kept (row := none) ⟨hb2.os, hb2.tape, hb2.output, hb2.size, fun k hk _ => hb2.block k hk⟩ (by
        cases u3.ownBlock with
        | none => exact .inl rfl
        | some k => exact .inr (by simp))
      clear hb2 HRP HO HW
      go_wp2_with fail
      refine (HPA.out _).mono ?_
      rintro _ w3 ⟨rfl, hb3⟩
      have HW3 := hidM (HW2.out.trans (hb3.mono HW2.out.size))
      have HO3 : Hid (OwnS w3 w1.heap.size u3 (listL (ps.take k))) := HO2.out.kept (row := none) ⟨hb3.os, hb3.tape, hb3.output, hb3.size, fun k hk _ => hb3.block k hk⟩ (by
        cases u3.ownBlock with
        | none => exact .inl rfl
        | some k => exact .inr (by simp))
      clear hb3 HPA HO2 HW2
      by_cases hi : idB id.data.toList = true
      · have hp : pathR id = (pathB id, 0) := by unfold pathR; rw [if_pos hi]
        rw [hp]
        clear hp
        by_cases he : pathB id = p
        · have b1 : ((pathB id).toList == p.toList) = true := by rw [he]; simp
          rw [if_pos ⟨hi, he⟩] at HLS
          rw [HLS.out] at HNX
          simp only at HNX
          clear hi he HLS
          generalize pathB id = PB at *
          obtain ⟨o2, ho2⟩ : ∃ o2, o2 = listL (ps.take (k + 1)) := ⟨_, rfl⟩
          rw [← ho2] at HNX
          have HQ2 := hidM ho2
          clear ho2
          have HMK := hidM (fun (V : World) (x : Value) (h : V.ownsRow w1.heap.size 9 1 x ((listL (ps.take k)).length + 1) (strsV (listL (ps.take k)) ++ [.string id])) => OwnS.push h)
          rw [← HNX.out] at HMK
          have HOB : Hid (w3.ownsRow w1.heap.size 9 1 u3 (listL (ps.take k)).length (strsV (listL (ps.take k)))) := HO3.out
          generalize strsV (listL (ps.take k)) = sv at *
          generalize (listL (ps.take k)).length = ln at *
          go_wp2_with (at_builtin; refine wpList_append_own _ rfl _ _ 43 rfl w1.heap.size 9 i0 (.string .empty) 1 16 Tryz.underlying43 hi0 hz0 hz1 hz2 rfl (by decide) _ _ _ rfl (World.ownsRow.alloc HOB.out _) ⟨_, 0, none⟩ 1 1 [.string id] rfl rfl ?qc2 ?qc3 ?qc4 ?qc5 ?qc6 ?_)
          case qc2 => intro j y hj; rcases j with _ | j <;> simp at hj; subst hj; rw [Addr.add_lit]; simp
          case qc3 => intro u hu; simp at hu; subst hu; rfl
          case qc4 => unfold maxLen; omega
          case qc5 => omega
          case qc6 => have := HW3.out.size; simp at this ⊢; omega
          intro v' w5 hown' hgrow hnil
          have HO5 := hidM (HMK.out _ _ hown')
          have HB5 : Hid (Below w1.heap.size w1 w5) := (HW3.out.alloc HW3.out.size _).grown hgrow (by have := HW3.out.size; simp at this ⊢; omega) (fun g hg => (HOB.out.lt g hg).1)
          clear hown' hgrow hnil HMK HOB
          go_wp2
          go_roundw
          case rel => exact ⟨k + 1, by omega, by go_num, by rw [← HQ2.out]; exact HO5.out, HB5.out⟩
          case measure => simp [intOf]; omega
        · have b1 := bytes_ne he
          rw [if_neg (fun h => he h.2)] at HLS
          rw [HLS.out] at HNX
          simp only [List.append_nil] at HNX
          clear hi he HLS
          generalize pathB id = PB at *
          go_wp2
          go_roundw
          case rel => exact ⟨k + 1, by omega, by go_num, by rw [HNX.out]; exact HO3.out, HW3.out⟩
          case measure => simp [intOf]; omega
      · have hp : pathR id = (⟨#[]⟩, 4) := by unfold pathR; rw [if_neg hi]
        rw [hp]
        rw [if_neg (fun h => hi h.1)] at HLS
        rw [HLS.out] at HNX
        simp only [List.append_nil] at HNX
        clear hp hi HLS
        go_wp2
        go_roundw
        case rel => exact ⟨k + 1, by omega, by go_num, by rw [HNX.out]; exact HO3.out, HW3.out⟩
        case measure => simp [intOf]; omega
    · obtain rfl : k = len := by omega
      have hks := HB1.out.size
      have HRES : Hid (OwnS wr w.heap.size u3 (listL ps)) := by
        have h := HO.out
        rw [HTL.out] at h
        refine ⟨h.1, ?_⟩
        rcases h.2 with h0 | ⟨g, cap, cur, hv, hbs, r⟩
        · exact .inl h0
        · exact .inr ⟨g, cap, cur, hv, by omega, r⟩
      have HBF := hidM (HB1.out.trans (HW.out.mono HB1.out.size))
      go_wp2
      go_ret
      exact ⟨⟨_, HRES.out, rfl⟩, HBF.out⟩
end Go.Proofs.YtddoemeellbhaaaGreatDoor
namespace Go.Proofs.YtddoemeellbhaaaGreatDoor
open Go.RowKit

end Go.Proofs.YtddoemeellbhaaaGreatDoor
namespace Go.Proofs.YtddoemeellbhaaaGreatDoor
open Go.RowKit

def StrsAtO (w : World) (g : Nat) (l : List ByteArray) : Prop := ∀ j (h : j < l.length), w.cell? ⟨g, j, none⟩ = some (.string l[j])
theorem StrsAtO.below {w w' : World} {g B : Nat} {l : List ByteArray} (h : StrsAtO w g l) (hb : Below B w w') (hB : g < B) : StrsAtO w' g l := fun j hj =>
  (hb.cell (p := ⟨g, j, none⟩) hB).trans (h j hj)
theorem OwnS.shape {w : World} {B : Nat} {v : Value} {l : List ByteArray} (h : OwnS w B v l) : ∃ a c, v = .slice a l.length c ∧ (l ≠ [] → ∃ g, a = some ⟨g, 0, none⟩ ∧ B ≤ g ∧ g < w.heap.size ∧ StrsAtO w g l) := by
  have h' := h
  rcases h.2 with ⟨hnil, hn⟩ | ⟨g, cap, cur, rfl, hbase, hbk, h1, h2, h3, h4⟩
  · refine ⟨none, 0, by rw [hnil, hn], fun hne => ?_⟩
    exact absurd (List.eq_nil_of_length_eq_zero hn) hne
  · refine ⟨_, cap, rfl, fun _ => ⟨g, rfl, hbase, (Array.getElem?_eq_some_iff.1 hbk).1, fun j hj => ?_⟩⟩
    have := World.ownsRow.cells h' (g := g) rfl j (.string l[j]) (by unfold strsV; simp [hj])
    rw [Addr.add_lit, Nat.zero_add] at this
    exact this
theorem own_mono {w : World} {B B' : Nat} {v : Value} {l : List ByteArray} (h : OwnS w B v l) (hB : B' ≤ B) : OwnS w B' v l := by
  refine ⟨h.1, ?_⟩
  rcases h.2 with hn | ⟨g, cap, cur, h1, h2, h3⟩
  · exact .inl hn
  · exact .inr ⟨g, cap, cur, h1, Nat.le_trans hB h2, h3⟩
/-- the list of texts that a value is -/
def StrsV (w : World) (v : Value) (l : List ByteArray) : Prop := ∃ a c, v = .slice a l.length c ∧ (l ≠ [] → ∃ g, a = some ⟨g, 0, none⟩ ∧ g < w.heap.size ∧ StrsAtO w g l)
theorem OwnS.strs {w : World} {B : Nat} {v : Value} {l : List ByteArray} (h : OwnS w B v l) : StrsV w v l := by
  obtain ⟨a, c, hv, hs⟩ := h.shape
  exact ⟨a, c, hv, fun hne => by obtain ⟨g, h1, _, h2, h3⟩ := hs hne; exact ⟨g, h1, h2, h3⟩⟩
theorem StrsV.below {w w' : World} {v : Value} {l : List ByteArray} (h : StrsV w v l) (hb : Below w.heap.size w w') : StrsV w' v l := by
  obtain ⟨a, c, hv, hs⟩ := h
  exact ⟨a, c, hv, fun hne => by obtain ⟨g, h1, h2, h3⟩ := hs hne; exact ⟨g, h1, Nat.lt_of_lt_of_le h2 hb.size, h3.below hb h2⟩⟩
/-- alike up to k -/
def SameTo (l m : List ByteArray) (k : Nat) : Prop := ∀ t (h : t < l.length) (h2 : t < m.length), t < k → l[t] = m[t]
open Classical in
noncomputable def sameB (l m : List ByteArray) : Bool := decide (l = m)
set_option maxHeartbeats 1600000 in
theorem same_any (v1 v2 : Value) (l m : List ByteArray) (w : World) (h1 : StrsV w v1 l) (h2 : StrsV w v2 m) (hl : l.length ≤ 1000000) :
    Calls Tryz.prog 19 #[v1, v2] w fun e w' => e = .returned (.bool (sameB l m)) ∧ Below w.heap.size w w' := by
  obtain ⟨a1, c1, rfl, hs1⟩ := h1
  obtain ⟨a2, c2, rfl, hs2⟩ := h2
  have HS1 := hidMO hs1
  have HS2 := hidMO hs2
  clear hs1 hs2
  by_cases hlen : l.length = m.length
  · have HE := hidMO hlen
    have g0 : ((l.length : Int) == (m.length : Int)) = true := by simp; omega
    clear hlen
    go_enter Tryz.func19, Tryz.ntmps19
    go_wp2
    go_loopw [5, 13] (fun _ i wr => ∃ (k : Nat), k ≤ l.length ∧ i = .int .i64 k ∧ SameTo l m k ∧ Below w.heap.size w wr) (fun _ i _ => l.length - (intOf i).toNat)
    case atStart => exact ⟨0, Nat.zero_le _, rfl, fun t _ _ h => by omega, Below.refl _ _⟩
    case round =>
      obtain ⟨k, hk, rfl, hd, hb⟩ := hrel
      have HD := hidMO hd
      have HB := hidMO hb
      clear hd hb
      by_cases hlt : k < l.length
      · have kk : (k : Int) < (l.length : Int) := by omega
        have hlt2 : k < m.length := by have := HE.out; omega
        have kk2 : (k : Int) < (m.length : Int) := by omega
        have k0 : (0 : Int) ≤ (k : Int) := by omega
        obtain ⟨g, rfl, hg, hst⟩ := HS1.out (fun h => by rw [h] at hlt; simp at hlt)
        obtain ⟨g2, rfl, hg2, hst2⟩ := HS2.out (fun h => by rw [h] at hlt2; simp at hlt2)
        have d1 := (hst.below HB.out hg) k hlt
        have d2 := (hst2.below HB.out hg2) k hlt2
        clear hst hst2
        by_cases he : l[k] = m[k]
        · have HN : Hid (SameTo l m (k + 1)) := fun t h h9 ht => by
            by_cases h5 : t < k
            · exact HD.out t h h9 h5
            · have : t = k := by omega
              subst this; exact he
          rw [he] at d1
          generalize m[k] = X at *
          clear he
          go_wp2
          go_quiet (fail)
          go_wp2
          go_roundw
          case rel => exact ⟨k + 1, by omega, by go_num, HN.out, below_drewN HB.out _⟩
          case measure => (show l.length - ((k : Int) + 1).toNat < l.length - ((k : Int)).toNat); omega
        · have HT : Hid (sameB l m = false) := by
            unfold Hid sameB
            simp only [decide_eq_false_iff_not]
            intro h
            subst h
            exact he rfl
          have e1 : (l[k].toList == m[k].toList) = false := by
            rw [ByteArray.toList_eq, ByteArray.toList_eq]
            exact beq_false_of_ne fun h => he (ba_eq h)
          generalize m[k] = X at *
          generalize l[k] = Y at *
          clear he
          go_wp2
          go_quiet (fail)
          go_wp2
          go_ret
          exact ⟨by rw [HT.out]; rfl, below_drewN HB.out _⟩
      · have HT : Hid (sameB l m = true) := by
          unfold Hid sameB
          simp only [decide_eq_true_eq]
          refine List.ext_getElem HE.out fun t h9 h8 => HD.out t h9 h8 (by omega)
        have kk : ¬ (k : Int) < (l.length : Int) := by omega
        go_wp2
        go_ret
        exact ⟨by rw [HT.out]; rfl, HB.out⟩
  · have HT : Hid (sameB l m = false) := by
      unfold Hid sameB
      simp only [decide_eq_false_iff_not]
      intro h; exact hlen (by rw [h])
    have g0 : ((l.length : Int) == (m.length : Int)) = false := by simp; omega
    clear hlen
    go_enter Tryz.func19, Tryz.ntmps19
    go_wp2
    go_ret
    exact ⟨by rw [HT.out]; rfl, Below.refl _ _⟩
def RGetPost (fs : List FileB) (p : ByteArray) (e : Ending) : Prop := (∃ f ∈ fs, f.1 = p ∧ e = .returned (.tuple #[.string f.2, .bool true])) ∨ ((∀ f ∈ fs, f.1 ≠ p) ∧ e = .returned (.tuple #[.string .empty, .bool false]))
set_option maxHeartbeats 1600000 in
theorem rget_any (b off c : Nat) (fs : List FileB) (p : ByteArray) (w : World) (hb : b < w.heap.size) (hf : FilesAt w b off fs) (hl : fs.length ≤ 1000000) :
    Calls Tryz.prog 47 #[.slice (some ⟨b, off, none⟩) fs.length c, .string p] w fun e w' => RGetPost fs p e ∧ Below w.heap.size w w' := by
  have HF := hidMO hf
  clear hf
  go_enter Tryz.func47, Tryz.ntmps47
  go_wp2_with fail
  go_loopw [7, 10] (fun _ i wr => ∃ (k : Nat), k ≤ fs.length ∧ i = .int .i64 k ∧ (∀ t (h : t < fs.length), t < k → fs[t].1 ≠ p) ∧ Below w.heap.size w wr) (fun _ i _ => fs.length - (intOf i).toNat)
  case atStart => exact ⟨0, Nat.zero_le _, rfl, fun t _ h => by omega, Below.refl _ _⟩
  case round =>
    obtain ⟨k, hk, rfl, hd, hbr⟩ := hrel
    have HD := hidMO hd
    have HB := hidMO hbr
    have hsz := hbr.size
    clear hd hbr
    by_cases hlt : k < fs.length
    · have kk : (k : Int) < (fs.length : Int) := by omega
      have c1 := (HF.out.below HB.out hb k hlt).1
      have c2 := (HF.out.below HB.out hb k hlt).2
      have HMEM : Hid (fs[k] ∈ fs) := List.getElem_mem hlt
      by_cases he : fs[k].1 = p
      · have HP : Hid (∀ e, e = .returned (.tuple #[.string fs[k].2, .bool true]) → RGetPost fs p e) := fun e h => .inl ⟨fs[k], HMEM.out, he, h⟩
        rw [he] at c1
        generalize fs[k].2 = D at *
        clear he
        go_wp2_with fail
        go_ret2
        exact ⟨HP.out _ rfl, HB.out.alloc hsz _⟩
      · have e1 : (fs[k].1.toList == p.toList) = false := by
          rw [ByteArray.toList_eq, ByteArray.toList_eq]
          exact beq_false_of_ne fun h => he (ba_eq h)
        have HN : Hid (∀ t (h : t < fs.length), t < k + 1 → fs[t].1 ≠ p) := fun t h ht => by
          by_cases h5 : t < k
          · exact HD.out t h h5
          · have : t = k := by omega
            subst this; exact he
        generalize fs[k].1 = X at *
        generalize fs[k].2 = D at *
        clear he
        go_wp2_with fail
        go_roundw
        case rel => exact ⟨k + 1, by omega, by go_num, HN.out, HB.out.alloc hsz _⟩
        case measure => (show fs.length - ((k : Int) + 1).toNat < fs.length - ((k : Int)).toNat); omega
    · obtain rfl : k = fs.length := by omega
      have HP : Hid (∀ e, e = .returned (.tuple #[.string .empty, .bool false]) → RGetPost fs p e) := fun e h => .inr ⟨fun f hf => by
        obtain ⟨t, ht, rfl⟩ := List.mem_iff_getElem.1 hf
        exact HD.out t ht ht, h⟩
      go_wp2_with fail
      go_ret2
      exact ⟨HP.out _ rfl, HB.out⟩
set_option maxHeartbeats 1600000 in
theorem rbegins_any (f : FileB) (p : ByteArray) (w : World) :
    Calls Tryz.prog 91 #[.string f.1, .string p] w fun e w' => e = .returned (.bool (beginsF p f)) ∧ w' = w := by
  have HR : Hid ((decide (p.size ≤ f.1.size) && ((f.1.extract 0 p.size).toList == p.toList)) = beginsF p f) := Lib.hasPrefix_raw f.1 p
  generalize f.1 = X at *
  by_cases h : p.size ≤ X.size
  · have g : decide ((p.size : Int) ≤ (X.size : Int)) = true := by simp; omega
    have g2 : (p.size : Int) ≤ (X.size : Int) := by omega
    have HR2 : Hid (((X.extract 0 p.size).toList == p.toList) = beginsF p f) := by
      have := HR.out
      rwa [show decide (p.size ≤ X.size) = true by simpa using h, Bool.true_and] at this
    go_enter Tryz.func91, Tryz.ntmps91
    go_wp2_with fail
    go_ret
    exact ⟨by rw [← HR2.out]; rfl, rfl⟩
  · have g : decide ((p.size : Int) ≤ (X.size : Int)) = false := by simp; omega
    have HR2 : Hid (beginsF p f = false) := by
      have := HR.out
      rw [show decide (p.size ≤ X.size) = false by simpa using h, Bool.false_and] at this
      exact this.symm
    go_enter Tryz.func91, Tryz.ntmps91
    go_wp2_with fail
    go_ret
    exact ⟨by rw [HR2.out]; rfl, rfl⟩
/-- y stands behind x -/
def gtB (y x : ByteArray) : Bool := !(Op.bytesLess y.toList x.toList || y.toList == x.toList)
def putStep (x : ByteArray) (st : List ByteArray × Bool) (y : ByteArray) : List ByteArray × Bool :=
  if y.toList == x.toList then (st.1 ++ [y], true) else if st.2 then (st.1 ++ [y], true) else if gtB y x then (st.1 ++ [x] ++ [y], true) else (st.1 ++ [y], false)
def putF (x : ByteArray) (l : List ByteArray) : List ByteArray × Bool := l.foldl (putStep x) ([], false)
def putL (l : List ByteArray) (x : ByteArray) : List ByteArray := if (putF x l).2 then (putF x l).1 else (putF x l).1 ++ [x]
theorem putF_take (x : ByteArray) (l : List ByteArray) (k : Nat) (h : k < l.length) : putF x (l.take (k + 1)) = putStep x (putF x (l.take k)) l[k] := by
  unfold putF
  rw [List.take_succ_eq_append_getElem h, List.foldl_append]; rfl
theorem putF_len (x : ByteArray) (l : List ByteArray) (k : Nat) (hk : k ≤ l.length) : (putF x (l.take k)).1.length ≤ 2 * k := by
  induction k with
  | zero => simp [putF]
  | succ k ih =>
    rw [putF_take x l k (by omega)]
    have := ih (by omega)
    unfold putStep
    split
    · simp; omega
    · split
      · simp; omega
      · split
        · simp; omega
        · simp; omega
set_option maxRecDepth 100000 in
set_option maxHeartbeats 6400000 in
theorem rput_anyO (v : Value) (l : List ByteArray) (x : ByteArray) (w : World) (hV : StrsV w v l) (hl : l.length ≤ 1000000) :
    Calls Tryz.prog 92 #[v, .string x] w fun e w' => SlRet w' w.heap.size (putL l x) e ∧ Below w.heap.size w w' := by
  obtain ⟨i0, hi, hz0, hz1, hz2⟩ := info_parts info9
  obtain ⟨a, c, rfl, hs⟩ := hV
  have HS : Hid (∀ W, Below w.heap.size w W → ∀ m (h : m < l.length), ∃ g, a = some ⟨g, 0, none⟩ ∧ W.cell? ⟨g, m, none⟩ = some (.string l[m])) := fun W hW m h => by
    obtain ⟨g, h1, h2, h3⟩ := hs (fun hh => by rw [hh] at h; simp at h)
    exact ⟨g, h1, h3.below hW h2 m h⟩
  clear hs
  go_enter Tryz.func92, Tryz.ntmps92
  go_wp2_with fail
  have HO0 : Hid (OwnS (w.alloc (.cells #[] 9)) w.heap.size (.slice (some ⟨w.heap.size, 0, none⟩) 0 0) []) := World.ownsRow_made w #[] 0 (Nat.le_refl _) (Nat.zero_le _) (by simp)
  go_loopw [5, 6, 12] (fun ov dv i wr => ∃ (k : Nat), k ≤ l.length ∧ ∃ st : List ByteArray × Bool, i = .int .i64 k ∧ (st = putF x (l.take k) ∧ dv = .bool st.2) ∧ OwnS wr w.heap.size ov st.1 ∧ Below w.heap.size w wr) (fun _ _ i _ => l.length - (intOf i).toNat)
  case atStart => exact ⟨0, Nat.zero_le _, ([], false), rfl, ⟨rfl, rfl⟩, HO0.out, (Below.refl _ _).alloc (Nat.le_refl _) _⟩
  case round =>
    obtain ⟨k, hk, st, rfl, ⟨hst, rfl⟩, hown, hbr⟩ := hrel
    have HO := hidMO hown
    have HB := hidMO hbr
    have hol : Hid (st.1.length ≤ 2 * k) := by unfold Hid; rw [hst]; exact putF_len x l k hk
    have HST := hidMO hst
    clear hown hbr HO0 hst
    obtain ⟨O, dn⟩ := st
    simp only at HO hol ⊢
    by_cases hlt : k < l.length
    · have kk : (k : Int) < (l.length : Int) := by omega
      obtain ⟨g, rfl, y0⟩ := HS.out wr HB.out k hlt
      have HN : Hid (putF x (l.take (k + 1)) = putStep x (O, dn) l[k]) := by unfold Hid; rw [putF_take x l k hlt, ← HST.out]
      generalize l[k] = Y at *
      unfold putStep at HN
      clear HST
      cases hyx : (Y.toList == x.toList)
      · rw [hyx] at HN
        cases dn
        · cases hgt : gtB Y x
          · rw [hgt] at HN
            have hg2 : (Op.bytesLess Y.toList x.toList || Y.toList == x.toList) = true := by unfold gtB at hgt; simpa only [Bool.not_eq_false'] using hgt
            rw [hyx, Bool.or_false] at hg2
            clear hgt
            go_wp2_with (first
              | (at_builtin; refine wpList_append_own _ rfl _ _ 43 rfl w.heap.size 9 i0 (.string .empty) 1 16 Tryz.underlying43 hi hz0 hz1 hz2 rfl (by decide) _ _ _ rfl (World.ownsRow.alloc HO.out _) ⟨wr.heap.size, 0, none⟩ 1 1 [.string Y] ?a0 rfl ?a1 ?a2 ?a3 ?a4 ?a5 ?_))
            try (case a0 => rfl)
            try (case a1 => exact cell_new_at _ _ _ _ rfl)
            try (case a2 => first | rfl | (intro u hu; simp at hu; subst hu; rfl))
            try (case a3 => have := hol.out; first | omega | (unfold maxLen; omega))
            try (case a4 => have := hol.out; omega)
            try (case a5 => have := HB.out.size; first | omega | (simp; omega))
            intro va w2 howna hgrowa _
            have HO2 := hidMO (OwnS.push howna)
            have HB2 := hidMO (OwnS.below HO.out HB.out HB.out.size hgrowa)
            clear howna hgrowa
            go_wp2_with fail
            go_roundw
            case rel => exact ⟨k + 1, by omega, _, by go_num, ⟨HN.out.symm, rfl⟩, HO2.out, HB2.out⟩
            case measure => (show l.length - ((k : Int) + 1).toNat < l.length - ((k : Int)).toNat); omega
          · rw [hgt] at HN
            have hg2 : Op.bytesLess Y.toList x.toList = false := by unfold gtB at hgt; rw [hyx, Bool.or_false] at hgt; simpa using hgt
            clear hgt
            go_wp2_with (first
              | (at_builtin; refine wpList_append_own _ rfl _ _ 43 rfl w.heap.size 9 i0 (.string .empty) 1 16 Tryz.underlying43 hi hz0 hz1 hz2 rfl (by decide) _ _ _ rfl (World.ownsRow.alloc HO.out _) ⟨wr.heap.size, 0, none⟩ 1 1 [.string x] ?b0 rfl ?b1 ?b2 ?b3 ?b4 ?b5 ?_))
            try (case b0 => rfl)
            try (case b1 => exact cell_new_at _ _ _ _ rfl)
            try (case b2 => first | rfl | (intro u hu; simp at hu; subst hu; rfl))
            try (case b3 => have := hol.out; first | omega | (unfold maxLen; omega))
            try (case b4 => have := hol.out; omega)
            try (case b5 => have := HB.out.size; first | omega | (simp; omega))
            intro vb w2 hownb hgrowb _
            have HO2 := hidMO (OwnS.push hownb)
            have HB2 := hidMO (OwnS.below HO.out HB.out HB.out.size hgrowb)
            clear hownb hgrowb
            go_wp2_with (first
              | (at_builtin; refine wpList_append_own _ rfl _ _ 43 rfl w.heap.size 9 i0 (.string .empty) 1 16 Tryz.underlying43 hi hz0 hz1 hz2 rfl (by decide) _ _ _ rfl (World.ownsRow.alloc HO2.out _) ⟨w2.heap.size, 0, none⟩ 1 1 [.string Y] ?c0 rfl ?c1 ?c2 ?c3 ?c4 ?c5 ?_))
            try (case c0 => rfl)
            try (case c1 => exact cell_new_at _ _ _ _ rfl)
            try (case c2 => first | rfl | (intro u hu; simp at hu; subst hu; rfl))
            try (case c3 => have := hol.out; rw [List.length_append]; simp only [List.length_cons, List.length_nil]; first | omega | (unfold maxLen; omega))
            try (case c4 => have := hol.out; rw [List.length_append]; simp only [List.length_cons, List.length_nil]; omega)
            try (case c5 => have := HB2.out.size; first | omega | (simp; omega))
            intro vc w3 hownc hgrowc _
            have HO3 := hidMO (OwnS.push (l := O ++ [x]) (x := Y) (by rw [show (O ++ [x]).length = O.length + 1 by simp]; exact hownc))
            have HB3 := hidMO (OwnS.below HO2.out HB2.out HB2.out.size hgrowc)
            clear hownc hgrowc
            go_wp2_with fail
            go_roundw
            case rel => exact ⟨k + 1, by omega, _, by go_num, ⟨HN.out.symm, rfl⟩, HO3.out, HB3.out⟩
            case measure => (show l.length - ((k : Int) + 1).toNat < l.length - ((k : Int)).toNat); omega
        · go_wp2_with (first
            | (at_builtin; refine wpList_append_own _ rfl _ _ 43 rfl w.heap.size 9 i0 (.string .empty) 1 16 Tryz.underlying43 hi hz0 hz1 hz2 rfl (by decide) _ _ _ rfl (World.ownsRow.alloc HO.out _) ⟨wr.heap.size, 0, none⟩ 1 1 [.string Y] ?d0 rfl ?d1 ?d2 ?d3 ?d4 ?d5 ?_))
          try (case d0 => rfl)
          try (case d1 => exact cell_new_at _ _ _ _ rfl)
          try (case d2 => first | rfl | (intro u hu; simp at hu; subst hu; rfl))
          try (case d3 => have := hol.out; first | omega | (unfold maxLen; omega))
          try (case d4 => have := hol.out; omega)
          try (case d5 => have := HB.out.size; first | omega | (simp; omega))
          intro vd w2 hownd hgrowd _
          have HO2 := hidMO (OwnS.push hownd)
          have HB2 := hidMO (OwnS.below HO.out HB.out HB.out.size hgrowd)
          clear hownd hgrowd
          go_wp2_with fail
          go_roundw
          case rel => exact ⟨k + 1, by omega, _, by go_num, ⟨HN.out.symm, rfl⟩, HO2.out, HB2.out⟩
          case measure => (show l.length - ((k : Int) + 1).toNat < l.length - ((k : Int)).toNat); omega
      · rw [hyx] at HN
        have hYx : Y = x := ba_eq (by rw [← ByteArray.toList_eq, ← ByteArray.toList_eq]; simpa using hyx)
        subst hYx
        clear hyx
        go_wp2_with (first
          | (at_builtin; refine wpList_append_own _ rfl _ _ 43 rfl w.heap.size 9 i0 (.string .empty) 1 16 Tryz.underlying43 hi hz0 hz1 hz2 rfl (by decide) _ _ _ rfl (World.ownsRow.alloc HO.out _) ⟨wr.heap.size, 0, none⟩ 1 1 [.string Y] ?e0 rfl ?e1 ?e2 ?e3 ?e4 ?e5 ?_))
        try (case e0 => rfl)
        try (case e1 => exact cell_new_at _ _ _ _ rfl)
        try (case e2 => first | rfl | (intro u hu; simp at hu; subst hu; rfl))
        try (case e3 => have := hol.out; first | omega | (unfold maxLen; omega))
        try (case e4 => have := hol.out; omega)
        try (case e5 => have := HB.out.size; first | omega | (simp; omega))
        intro ve w2 howne hgrowe _
        have HO2 := hidMO (OwnS.push howne)
        have HB2 := hidMO (OwnS.below HO.out HB.out HB.out.size hgrowe)
        clear howne hgrowe
        go_wp2_with fail
        go_roundw
        case rel => exact ⟨k + 1, by omega, _, by go_num, ⟨HN.out.symm, rfl⟩, HO2.out, HB2.out⟩
        case measure => (show l.length - ((k : Int) + 1).toNat < l.length - ((k : Int)).toNat); omega
    · obtain rfl : k = l.length := by omega
      rw [List.take_of_length_le (Nat.le_refl _)] at HST
      cases dn
      · have HP : Hid (putL l x = O ++ [x]) := by unfold Hid putL; rw [← HST.out]; rfl
        go_wp2_with (first
          | (at_builtin; refine wpList_append_own _ rfl _ _ 43 rfl w.heap.size 9 i0 (.string .empty) 1 16 Tryz.underlying43 hi hz0 hz1 hz2 rfl (by decide) _ _ _ rfl (World.ownsRow.alloc HO.out _) ⟨wr.heap.size, 0, none⟩ 1 1 [.string x] ?f0 rfl ?f1 ?f2 ?f3 ?f4 ?f5 ?_))
        try (case f0 => rfl)
        try (case f1 => exact cell_new_at _ _ _ _ rfl)
        try (case f2 => first | rfl | (intro u hu; simp at hu; subst hu; rfl))
        try (case f3 => have := hol.out; first | omega | (unfold maxLen; omega))
        try (case f4 => have := hol.out; omega)
        try (case f5 => have := HB.out.size; first | omega | (simp; omega))
        intro vf w2 hownf hgrowf _
        have HO2 := hidMO (OwnS.push hownf)
        have HB2 := hidMO (OwnS.below HO.out HB.out HB.out.size hgrowf)
        clear hownf hgrowf
        go_wp2_with fail
        go_ret
        exact ⟨⟨_, by rw [HP.out]; exact HO2.out, rfl⟩, HB2.out⟩
      · have HP : Hid (putL l x = O) := by unfold Hid putL; rw [← HST.out]; rfl
        go_wp2_with fail
        go_ret
        exact ⟨⟨_, by rw [HP.out]; exact HO.out, rfl⟩, HB.out⟩
def rundStep (p : ByteArray) (acc : List ByteArray) (f : FileB) : List ByteArray := if beginsF p f then putL acc f.1 else acc
def rundF (fs : List FileB) (p : ByteArray) : List ByteArray := fs.foldl (rundStep p) []
theorem rundF_take (fs : List FileB) (p : ByteArray) (k : Nat) (h : k < fs.length) : rundF (fs.take (k + 1)) p = rundStep p (rundF (fs.take k) p) fs[k] := by
  unfold rundF
  rw [List.take_succ_eq_append_getElem h, List.foldl_append]; rfl
/-- what Put does, by one round -/
theorem putF_shape (x : ByteArray) (l : List ByteArray) : (putF x l).1.length ≤ l.length + 1 ∧ ((putF x l).2 = false → (putF x l).1.length = l.length) := by
  have : ∀ k, k ≤ l.length → (putF x (l.take k)).1.length ≤ k + 1 ∧ ((putF x (l.take k)).2 = false → (putF x (l.take k)).1.length = k) := by
    intro k
    induction k with
    | zero => intro _; exact ⟨by simp [putF], fun _ => by simp [putF]⟩
    | succ k ih =>
      intro hk
      obtain ⟨h1, h2⟩ := ih (by omega)
      rw [putF_take x l k (by omega)]
      generalize putF x (l.take k) = st at *
      obtain ⟨O, d⟩ := st
      unfold putStep
      simp only at *
      split
      · exact ⟨by simp; omega, fun h => by simp at h⟩
      · split
        · exact ⟨by simp; omega, fun h => by simp at h⟩
        · rename_i hd
          have h3 := h2 (by simpa using hd)
          split
          · exact ⟨by simp; omega, fun h => by simp at h⟩
          · exact ⟨by simp; omega, fun _ => by simp; omega⟩
  have h := this l.length (Nat.le_refl _)
  rwa [List.take_of_length_le (Nat.le_refl _)] at h
theorem putL_len (l : List ByteArray) (x : ByteArray) : (putL l x).length ≤ l.length + 1 := by
  obtain ⟨h1, h2⟩ := putF_shape x l
  unfold putL
  split
  · exact h1
  · rename_i h
    have := h2 (by simpa using h)
    simp; omega
theorem rundF_len (fs : List FileB) (p : ByteArray) (k : Nat) (hk : k ≤ fs.length) : (rundF (fs.take k) p).length ≤ k := by
  induction k with
  | zero => simp [rundF]
  | succ k ih =>
    rw [rundF_take fs p k (by omega)]
    have := ih (by omega)
    unfold rundStep
    split
    · have := putL_len (rundF (fs.take k) p) (fs[k]'(by omega)).1; omega
    · omega
set_option maxHeartbeats 3200000 in
theorem runder_any (b off c : Nat) (fs : List FileB) (p : ByteArray) (w : World) (hb : b < w.heap.size) (hf : FilesAt w b off fs) (hl : fs.length ≤ 1000000) :
    Calls Tryz.prog 50 #[.slice (some ⟨b, off, none⟩) fs.length c, .string p] w fun e w' => SlRet w' w.heap.size (rundF fs p) e ∧ Below w.heap.size w w' := by
  have HF := hidMO hf
  clear hf
  go_enter Tryz.func50, Tryz.ntmps50
  go_wp2_with fail
  have HO0 : Hid (OwnS (w.alloc (.cells #[] 9)) w.heap.size (.slice (some ⟨w.heap.size, 0, none⟩) 0 0) []) := World.ownsRow_made w #[] 0 (Nat.le_refl _) (Nat.zero_le _) (by simp)
  go_loopw [5, 7, 11] (fun ov _ i wr => ∃ (k : Nat), k ≤ fs.length ∧ i = .int .i64 k ∧ OwnS wr w.heap.size ov (rundF (fs.take k) p) ∧ Below w.heap.size w wr) (fun _ _ i _ => fs.length - (intOf i).toNat)
  case atStart => exact ⟨0, Nat.zero_le _, rfl, HO0.out, (Below.refl _ _).alloc (Nat.le_refl _) _⟩
  case round =>
    obtain ⟨k, hk, rfl, hown, hbr⟩ := hrel
    have HO := hidMO hown
    have HB := hidMO hbr
    have hsz := hbr.size
    clear hown hbr HO0
    by_cases hlt : k < fs.length
    · have kk : (k : Int) < (fs.length : Int) := by omega
      have c1 := (HF.out.below HB.out hb k hlt).1
      have c2 := (HF.out.below HB.out hb k hlt).2
      have HT := hidMO (rundF_take fs p k hlt)
      have hrl := rundF_len fs p k hk
      have HBG := hidMO (fun W => rbegins_any fs[k] p W)
      unfold rundStep at HT
      have HO1 : Hid (OwnS (wr.alloc (.cells #[.string fs[k].1, .string fs[k].2] 48)) w.heap.size u5 (rundF (fs.take k) p)) := World.ownsRow.alloc HO.out _
      have HB1 : Hid (Below w.heap.size w (wr.alloc (.cells #[.string fs[k].1, .string fs[k].2] 48))) := HB.out.alloc hsz _
      generalize beginsF p fs[k] = BB at *
      generalize fs[k].1 = X at *
      generalize fs[k].2 = D at *
      generalize rundF (fs.take k) p = L at *
      cases BB
      · go_wp2_with fail
        refine (HBG.out _).mono ?_
        rintro _ w2 ⟨rfl, rfl⟩
        go_wp2_with fail
        go_roundw
        case rel => exact ⟨k + 1, by omega, by go_num, by rw [HT.out]; exact HO1.out, HB1.out⟩
        case measure => (show fs.length - ((k : Int) + 1).toNat < fs.length - ((k : Int)).toNat); omega
      · go_wp2_with fail
        refine (HBG.out _).mono ?_
        rintro _ w2 ⟨rfl, rfl⟩
        have HPU := hidMO (rput_anyO u5 L X _ HO1.out.strs (by omega))
        go_wp2_with fail
        refine HPU.out.mono ?_
        rintro _ w3 ⟨⟨v, hv, rfl⟩, hb3⟩
        have HO3 : Hid (OwnS w3 w.heap.size v (putL L X)) := own_mono hv (by have := HB1.out.size; omega)
        have HB3 : Hid (Below w.heap.size w w3) := HB1.out.trans (hb3.mono HB1.out.size)
        clear hv hb3
        go_wp2_with fail
        go_roundw
        case rel => exact ⟨k + 1, by omega, by go_num, by rw [HT.out]; exact HO3.out, HB3.out⟩
        case measure => (show fs.length - ((k : Int) + 1).toNat < fs.length - ((k : Int)).toNat); omega
    · obtain rfl : k = fs.length := by omega
      rw [List.take_of_length_le (Nat.le_refl _)] at HO
      go_wp2_with fail
      go_ret
      exact ⟨⟨_, HO.out, rfl⟩, HB.out⟩
theorem riseS_und {fs : List FileB} (h : RiseS fs) (p : ByteArray) : RiseS (undF fs p) := List.Pairwise.filter _ h
theorem less_cmp0 (x : List UInt8) : ∀ y, Op.bytesLess x y = decide (Lib.compareBytes x y < 0) := by
  induction x with
  | nil => intro y; cases y <;> simp [Op.bytesLess, Lib.compareBytes]
  | cons a x ih =>
    intro y
    cases y with
    | nil => simp [Op.bytesLess, Lib.compareBytes]
    | cons b y =>
      rw [cmp_cons, Op.bytesLess, ih y]
      by_cases h1 : a.toNat < b.toNat
      · have : a < b := (u8_lt a b).2 h1
        rw [if_pos h1]; simp [this]
      · have h1' : ¬ a < b := fun h => h1 ((u8_lt a b).1 h)
        rw [if_neg h1]
        by_cases h2 : b.toNat < a.toNat
        · have : (a == b) = false := beq_false_of_ne fun h => by rw [h] at h2; omega
          rw [if_pos h2, this]; simp [h1']
        · have : a = b := by rw [← UInt8.toNat_inj]; omega
          rw [if_neg h2, this]; simp
def cmpB (a b : ByteArray) : Int := Lib.compareBytes a.data.toList b.data.toList
abbrev RiseB (l : List ByteArray) : Prop := l.Pairwise fun a b => cmpB a b < 0
theorem cmpB_anti (a b : ByteArray) : cmpB a b = - cmpB b a := cmp_anti _ _
theorem cmpB_trans {a b c : ByteArray} (h1 : cmpB a b < 0) (h2 : cmpB b c < 0) : cmpB a c < 0 := cmp_lt_of_lt_of_le h1 (by unfold cmpB at h2; omega)
theorem cmpB_eq {a b : ByteArray} (h : cmpB a b = 0) : a = b := ba_eq ((cmp_zero _ _).1 h)
theorem cmpB_self (a : ByteArray) : cmpB a a = 0 := (cmp_zero _ _).2 rfl
theorem less_iff (a b : ByteArray) : Op.bytesLess a.toList b.toList = decide (cmpB a b < 0) := by
  rw [ByteArray.toList_eq, ByteArray.toList_eq, less_cmp0]; rfl
theorem beq_iff {a b : ByteArray} : (a.toList == b.toList) = true ↔ a = b := by
  rw [ByteArray.toList_eq, ByteArray.toList_eq]
  constructor
  · intro h; exact ba_eq (by simpa using h)
  · rintro rfl; simp
/-- how far Put has come -/
def PutAt (x : ByteArray) (l : List ByteArray) (k : Nat) (st : List ByteArray × Bool) : Prop :=
  (st.2 = false ∧ st.1 = l.take k ∧ ∀ z ∈ l.take k, cmpB z x < 0) ∨
  (st.2 = true ∧ RiseB st.1 ∧ (∀ z, z ∈ st.1 ↔ z = x ∨ z ∈ l.take k) ∧ ∀ t (h : t < l.length), k ≤ t → cmpB x l[t] < 0)
theorem put_at (x : ByteArray) (l : List ByteArray) (hr : RiseB l) (k : Nat) (hk : k ≤ l.length) : PutAt x l k (putF x (l.take k)) := by
  induction k with
  | zero => exact .inl ⟨rfl, rfl, fun z hz => by simp at hz⟩
  | succ k ih =>
    have hlt : k < l.length := by omega
    have h0 := ih (by omega)
    rw [putF_take x l k hlt]
    generalize putF x (l.take k) = st at *
    obtain ⟨O, d⟩ := st
    have htk : l.take (k + 1) = l.take k ++ [l[k]] := List.take_succ_eq_append_getElem hlt
    have hbef : ∀ z ∈ l.take k, cmpB z l[k] < 0 := fun z hz => by
      obtain ⟨t, ht, rfl⟩ := List.mem_iff_getElem.1 hz
      rw [List.length_take] at ht
      rw [List.getElem_take]
      exact List.pairwise_iff_getElem.1 hr t k (by omega) hlt (by omega)
    have haft : ∀ t (h : t < l.length), k + 1 ≤ t → cmpB l[k] l[t] < 0 := fun t h ht => List.pairwise_iff_getElem.1 hr k t hlt h (by omega)
    have hrk : RiseB (l.take (k + 1)) := List.Pairwise.sublist (List.take_sublist _ _) hr
    have hrk0 : RiseB (l.take k) := List.Pairwise.sublist (List.take_sublist _ _) hr
    unfold putStep
    simp only
    by_cases hyx : l[k] = x
    · rw [if_pos (beq_iff.2 hyx)]
      rcases h0 with ⟨_, h1, _⟩ | ⟨_,_,_, h3⟩
      · simp only at h1
        rw [h1, ← htk]
        refine .inr ⟨rfl, hrk, fun z => ?_, fun t h ht => by rw [← hyx]; exact haft t h ht⟩
        constructor
        · exact .inr
        · rintro (rfl | h)
          · rw [← hyx, htk]; exact List.mem_append.2 (.inr (List.mem_singleton.2 rfl))
          · exact h
      · have := h3 k hlt (Nat.le_refl _)
        rw [hyx, cmpB_self] at this; omega
    · rw [if_neg (fun h => hyx (beq_iff.1 h))]
      rcases h0 with ⟨h1, h2, h3⟩ | ⟨h1, h2, h3, h4⟩
      · simp only at h1 h2
        subst h1
        rw [if_neg (by decide)]
        have hgt : gtB l[k] x = !decide (cmpB l[k] x < 0) := by
          unfold gtB
          rw [less_iff, show (l[k].toList == x.toList) = false by simpa using fun h => hyx (beq_iff.1 (by simpa using h)), Bool.or_false]
        by_cases hc : cmpB l[k] x < 0
        · rw [hgt, if_neg (by simp [hc])]
          refine .inl ⟨rfl, by simp only [h2, htk], fun z hz => ?_⟩
          rw [htk] at hz
          rcases List.mem_append.1 hz with hz | hz
          · exact h3 z hz
          · rw [List.mem_singleton.1 hz]; exact hc
        · rw [hgt, if_pos (by simpa using hc)]
          have hxl : cmpB x l[k] < 0 := by
            have a1 := cmpB_anti x l[k]
            have a2 : cmpB l[k] x ≠ 0 := fun h => hyx (cmpB_eq h)
            omega
          refine .inr ⟨rfl, ?_, fun z => ?_, fun t h ht => cmpB_trans hxl (haft t h ht)⟩
          · simp only [h2]
            unfold RiseB
            rw [List.append_assoc, List.pairwise_append]
            refine ⟨hrk0, by simpa using hxl, fun a ha b hb => ?_⟩
            simp only [List.cons_append, List.nil_append, List.mem_cons, List.not_mem_nil, or_false] at hb
            rcases hb with rfl | rfl
            · exact h3 a ha
            · exact hbef a ha
          · simp only [h2, htk, List.mem_append, List.mem_singleton]
            constructor
            · rintro ((h | h) | h)
              · exact .inr (.inl h)
              · exact .inl h
              · exact .inr (.inr h)
            · rintro (h | h | h)
              · exact .inl (.inr h)
              · exact .inl (.inl h)
              · exact .inr h
      · simp only at h1 h2 h3
        subst h1
        rw [if_pos rfl]
        refine .inr ⟨rfl, ?_, fun z => ?_, fun t h ht => h4 t h (by omega)⟩
        · simp only
          unfold RiseB
          rw [List.pairwise_append]
          refine ⟨h2, List.pairwise_singleton _ _, fun a ha b hb => ?_⟩
          rw [List.mem_singleton.1 hb]
          rcases (h3 a).1 ha with rfl | ha
          · exact h4 k hlt (Nat.le_refl _)
          · exact hbef a ha
        · simp only [htk, List.mem_append, List.mem_singleton]
          rw [h3 z]
          constructor
          · rintro ((h | h) | h)
            · exact .inl h
            · exact .inr (.inl h)
            · exact .inr (.inr h)
          · rintro (h | h | h)
            · exact .inl (.inl h)
            · exact .inl (.inr h)
            · exact .inr h
theorem put_rise (l : List ByteArray) (x : ByteArray) (hr : RiseB l) : RiseB (putL l x) ∧ ∀ z, z ∈ putL l x ↔ z = x ∨ z ∈ l := by
  have h := put_at x l hr l.length (Nat.le_refl _)
  unfold PutAt at h
  rw [List.take_of_length_le (Nat.le_refl _)] at h
  unfold putL
  rcases h with ⟨h1, h2, h3⟩ | ⟨h1, h2, h3, _⟩
  · rw [if_neg (by rw [h1]; decide), h2]
    refine ⟨?_, fun z => by simp only [List.mem_append, List.mem_singleton]; exact Or.comm⟩
    rw [RiseB, List.pairwise_append]
    exact ⟨hr, List.pairwise_singleton _ _, fun a ha b hb => by rw [List.mem_singleton.1 hb]; exact h3 a ha⟩
  · rw [if_pos h1]
    exact ⟨h2, h3⟩
theorem rund_rise (fs : List FileB) (p : ByteArray) : RiseB (rundF fs p) ∧ ∀ z, z ∈ rundF fs p ↔ ∃ f ∈ fs, beginsF p f = true ∧ f.1 = z := by
  have : ∀ k, k ≤ fs.length → RiseB (rundF (fs.take k) p) ∧ ∀ z, z ∈ rundF (fs.take k) p ↔ ∃ f ∈ fs.take k, beginsF p f = true ∧ f.1 = z := by
    intro k
    induction k with
    | zero => intro _; exact ⟨by simp [rundF], fun z => by simp [rundF]⟩
    | succ k ih =>
      intro hk
      obtain ⟨h1, h2⟩ := ih (by omega)
      rw [rundF_take fs p k (by omega)]
      have htk : fs.take (k + 1) = fs.take k ++ [fs[k]'(by omega)] := List.take_succ_eq_append_getElem (by omega)
      unfold rundStep
      by_cases hb : beginsF p (fs[k]'(by omega)) = true
      · rw [if_pos hb]
        obtain ⟨h3, h4⟩ := put_rise _ (fs[k]'(by omega)).1 h1
        refine ⟨h3, fun z => ?_⟩
        rw [h4 z, h2 z, htk]
        constructor
        · rintro (rfl | ⟨f, hf, h⟩)
          · exact ⟨_, List.mem_append.2 (.inr (List.mem_singleton.2 rfl)), hb, rfl⟩
          · exact ⟨f, List.mem_append.2 (.inl hf), h⟩
        · rintro ⟨f, hf, h5, h6⟩
          rcases List.mem_append.1 hf with hf | hf
          · exact .inr ⟨f, hf, h5, h6⟩
          · left; rw [← h6, List.mem_singleton.1 hf]
      · rw [if_neg hb]
        refine ⟨h1, fun z => ?_⟩
        rw [h2 z, htk]
        constructor
        · rintro ⟨f, hf, h⟩; exact ⟨f, List.mem_append.2 (.inl hf), h⟩
        · rintro ⟨f, hf, h5, h6⟩
          rcases List.mem_append.1 hf with hf | hf
          · exact ⟨f, hf, h5, h6⟩
          · rw [List.mem_singleton.1 hf] at h5; exact absurd h5 hb
  have h := this fs.length (Nat.le_refl _)
  rwa [List.take_of_length_le (Nat.le_refl _)] at h
theorem RiseB.nodup {l : List ByteArray} (h : RiseB l) : l.Nodup := List.Pairwise.imp (fun {a b} h e => by rw [e, cmpB_self] at h; omega) h
theorem riseB_one {l m : List ByteArray} (hl : RiseB l) (hm : RiseB m) (h : ∀ z, z ∈ l ↔ z ∈ m) : l = m := by
  refine List.Perm.eq_of_pairwise (le := fun a b => cmpB a b < 0) ?_ hl hm ((List.perm_ext_iff_of_nodup hl.nodup hm.nodup).2 h)
  intro a b _ _ h1 h2
  have := cmpB_anti a b
  omega
/-- the document's paths are the folder's -/
theorem rund_eq {fs gs : List FileB} (p : ByteArray) (hp : gs.Perm fs) (hr : RiseS gs) : rundF fs p = pathsL (undF gs p) := by
  obtain ⟨h1, h2⟩ := rund_rise fs p
  refine riseB_one h1 ?_ fun z => ?_
  · unfold pathsL
    exact List.pairwise_map.2 (List.Pairwise.imp (fun h => h) (riseS_und hr p))
  · rw [h2 z]
    unfold pathsL undF
    simp only [List.mem_map, List.mem_filter]
    constructor
    · rintro ⟨f, hf, h3, h4⟩; exact ⟨f, ⟨hp.mem_iff.2 hf, h3⟩, h4⟩
    · rintro ⟨f, ⟨hf, h3⟩, h4⟩; exact ⟨f, hp.mem_iff.1 hf, h3, h4⟩
end Go.Proofs.YtddoemeellbhaaaGreatDoor
