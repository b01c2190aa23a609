/-
  RefsShadow: a reference's file in place of others; rows of files of the call's own.
  Taken over: the place of a byte.
  The document's rows of packed references, as they lie in memory.
  The document's packed references, walked.
-/
import Derived.Test.YtjoomlpocpdonaaGreatDoorJLstW
import Derived.Deep.QuietTactic
import Derived.BigQuiet
import Derived.WalkKit
import Derived.WalkSmall
import Derived.WalkSpells
import Derived.WalkLawsBesides
import Derived.Laws.IdiomStrings
import Derived.Test.YtjoomlpocpdonaaGreatDoorJSnapD
namespace Go.Proofs.YtjoomlpocpdonaaGreatDoor
open Go.RowKit

def flatF (fs : List FileB) : List Value := fs.flatMap fun f => [.string f.1, .string f.2]
theorem flatF_app (a b : List FileB) : flatF (a ++ b) = flatF a ++ flatF b := by unfold flatF; rw [List.flatMap_append]
theorem flatF_get : ∀ (fs : List FileB) (i : Nat) (h : i < fs.length), (flatF fs)[i * 2]? = some (.string fs[i].1) ∧ (flatF fs)[i * 2 + 1]? = some (.string fs[i].2)
  | [], i, h => by simp at h
  | f :: fs, 0, h => by simp [flatF]
  | f :: fs, i + 1, h => by
    have ih := flatF_get fs i (by simpa using h)
    have e : flatF (f :: fs) = .string f.1 :: .string f.2 :: flatF fs := by simp [flatF]
    rw [e, show (i + 1) * 2 = i * 2 + 2 by omega, show i * 2 + 2 + 1 = i * 2 + 1 + 2 by omega]
    simpa using ih
def OwnF (w : World) (B : Nat) (v : Value) (fs : List FileB) : Prop := w.ownsRow B 48 2 v fs.length (flatF fs)
theorem OwnF.push {w : World} {B : Nat} {v : Value} {fs : List FileB} {f : FileB} (h : w.ownsRow B 48 2 v (fs.length + 1) (flatF fs ++ [.string f.1, .string f.2])) : OwnF w B v (fs ++ [f]) := by
  unfold OwnF
  rw [flatF_app, List.length_append]
  exact h
theorem OwnF.files {w : World} {B : Nat} {v : Value} {fs : List FileB} (h : OwnF w B v fs) (hne : fs ≠ []) : ∃ g c, v = .slice (some ⟨g, 0, none⟩) fs.length c ∧ B ≤ g ∧ g < w.heap.size ∧ FilesAt w g 0 fs := by
  have h' := h
  rcases h.2 with ⟨hnil, hn⟩ | ⟨g, cap, cur, rfl, hbase, hbk, h1, h2, h3, h4⟩
  · exact absurd (List.eq_nil_of_length_eq_zero hn) hne
  · refine ⟨g, cap, rfl, hbase, (Array.getElem?_eq_some_iff.1 hbk).1, fun i hi => ?_⟩
    have hh := flatF_get fs i hi
    have c1 := World.ownsRow.cells h' (g := g) rfl (i * 2) _ hh.1
    have c2 := World.ownsRow.cells h' (g := g) rfl (i * 2 + 1) _ hh.2
    rw [Addr.add_lit] at c1 c2
    exact ⟨c1, by rw [show 0 + i * 2 + 1 = 0 + (i * 2 + 1) by omega]; exact c2⟩
theorem OwnF.below {w w' : World} {B : Nat} {v : Value} {fs : List FileB} (h : OwnF w B v fs) (hb : Below w.heap.size w w') : OwnF w' B v fs := h.kept (below_none hb) (by
  cases hv : v.ownBlock with
  | none => exact .inl rfl
  | some x => exact .inr (by simp))
theorem OwnF.slice {w : World} {B : Nat} {v : Value} {fs : List FileB} (h : OwnF w B v fs) (hv : v ≠ .slice none 0 0) : ∃ g c, v = .slice (some ⟨g, 0, none⟩) fs.length c ∧ B ≤ g ∧ g < w.heap.size ∧ FilesAt w g 0 fs := by
  by_cases hf : fs = []
  · subst hf
    rcases h.2 with ⟨hnil, hn⟩ | ⟨g, cap, cur, rfl, hbase, hbk, h1, h2, h3, h4⟩
    · exact absurd hnil hv
    · exact ⟨g, cap, rfl, hbase, (Array.getElem?_eq_some_iff.1 hbk).1, fun i hi => by simp at hi⟩
  · exact h.files hf
theorem OwnF.nonnil {w : World} {B : Nat} {v : Value} {fs : List FileB} (h : OwnF w B v fs) (hf : fs ≠ []) : v ≠ .slice none 0 0 := by
  obtain ⟨g, c, rfl, _⟩ := h.files hf
  simp
theorem Folder.kept {w w' : World} {q b off c : Nat} {fs : List FileB} {row : Option Nat} (h : Folder w q b off c fs) (hg : w.grownBy w' row) (h1 : row ≠ some q) (h2 : row ≠ some b) : Folder w' q b off c fs := by
  have e1 := hg.block q h.qlt (fun e => h1 e.symm)
  have e2 := hg.block b h.blt (fun e => h2 e.symm)
  refine ⟨(World.cell?_of_block (a := ⟨q, 0, none⟩) e1).trans h.cell, fun i hi => ?_, Nat.lt_of_lt_of_le h.qlt hg.size, Nat.lt_of_lt_of_le h.blt hg.size, h.cap⟩
  obtain ⟨c1, c2⟩ := h.files i hi
  exact ⟨(World.cell?_of_block (a := ⟨b, off + i * 2, none⟩) e2).trans c1, (World.cell?_of_block (a := ⟨b, off + i * 2 + 1, none⟩) e2).trans c2⟩
end Go.Proofs.YtjoomlpocpdonaaGreatDoor
namespace Go.Proofs.YtjoomlpocpdonaaGreatDoor
open Go.RowKit

theorem index_app (c : UInt8) (p q : List UInt8) (h : c ∉ p) : Lib.indexByte (p ++ c :: q) c = (p.length : Int) := by
  induction p with
  | nil => unfold Lib.indexByte; simp
  | cons b p ih =>
    have h1 : b ≠ c := fun e => h (by simp [e])
    have h2 := ih (fun hc => h (by simp [hc]))
    show Lib.indexByte (b :: (p ++ c :: q)) c = _
    unfold Lib.indexByte
    rw [if_neg (by simpa using h1), h2, if_neg (by simp)]
    simp
theorem index_none (c : UInt8) (l : List UInt8) (h : c ∉ l) : Lib.indexByte l c = -1 := by
  induction l with
  | nil => rfl
  | cons b l ih =>
    have h1 : b ≠ c := fun e => h (by simp [e])
    unfold Lib.indexByte
    rw [if_neg (by simpa using h1), ih (fun hc => h (by simp [hc]))]
    rfl
theorem split_at (s : ByteArray) (k : Nat) (h : k < s.size) : s.data.toList = s.data.toList.take k ++ s[k] :: s.data.toList.drop (k + 1) := by
  have h1 : k < s.data.toList.length := by simpa using h
  rw [show s[k] = s.data.toList[k] from rfl, ← List.drop_eq_getElem_cons h1, List.take_append_drop]
set_option maxHeartbeats 1600000 in
theorem findB_any (s : ByteArray) (c : UInt8) (w : World) (hs : s.size ≤ 9223372036854775807) :
    Calls Tryz.prog 34 #[.string s, .int .u8 (c.toNat : Int)] w fun e w' => e = .returned (.int .i64 (Lib.indexByte s.data.toList c)) ∧ w' = w := by
  go_enter Tryz.func34, Tryz.ntmps34
  go_wp2
  go_loopw [5] (fun i wr => ∃ (k : Nat), k ≤ s.size ∧ i = .int .i64 k ∧ c ∉ s.data.toList.take k ∧ wr = w) (fun i _ => s.size - (intOf i).toNat)
  case atStart => exact ⟨0, Nat.zero_le _, rfl, by simp, rfl⟩
  case round =>
    obtain ⟨k, hk, rfl, hd, rfl⟩ := hrel
    have HD := hidM hd
    clear hd
    by_cases hlt : k < s.size
    · have kk : (k : Int) < (s.size : Int) := by omega
      by_cases he : s[k] = c
      · have HI : Hid (Lib.indexByte s.data.toList c = (k : Int)) := by
          unfold Hid
          have h := index_app c (s.data.toList.take k) (s.data.toList.drop (k + 1)) HD.out
          rw [← he] at h
          rw [← split_at s k hlt, he] at h
          rw [h, List.length_take]
          have : s.data.toList.length = s.size := by simp
          rw [Nat.min_eq_left (by omega)]
        have e1 : (s[k].toNat : Int) = (c.toNat : Int) := by rw [he]
        clear he
        go_wp2
        go_ret
        exact ⟨by rw [HI.out]; rfl, rfl⟩
      · have HX : Hid (c ∉ s.data.toList.take (k + 1)) := by
          unfold Hid
          rw [take_one s k hlt]
          intro h
          rcases List.mem_append.1 h with h | h
          · exact HD.out h
          · rw [List.mem_singleton] at h; exact he h.symm
        have e1 : ¬ (s[k].toNat : Int) = (c.toNat : Int) := fun h => he (by rw [← UInt8.toNat_inj]; omega)
        have e2 : ((s[k].toNat : Int) == (c.toNat : Int)) = false := beq_false_of_ne e1
        clear he
        go_wp2
        go_roundw
        case rel => exact ⟨k + 1, by omega, by go_num, HX.out, trivial⟩
        case measure => (show s.size - ((k : Int) + 1).toNat < s.size - ((k : Int)).toNat); omega
    · obtain rfl : k = s.size := by omega
      have HI : Hid (Lib.indexByte s.data.toList c = -1) := index_none c _ (by
        have := HD.out
        rwa [List.take_of_length_le (by rw [sl_len]; omega)] at this)
      go_wp2
      go_ret
      exact ⟨by rw [HI.out]; rfl, rfl⟩
end Go.Proofs.YtjoomlpocpdonaaGreatDoor
namespace Go.Proofs.YtjoomlpocpdonaaGreatDoor
open Go.RowKit

theorem info68 : (Tryz.prog.info? 68).map (fun i => (i.zero, i.size, i.bytes)) = some (some (.agg #[.string .empty, .string .empty, .string .empty]), 3, 48) := by kernel_rfl
def flatR (rows : List RowR) : List Value := rows.flatMap fun r => [.string (mkB r.name), .string (mkB r.id), .string (mkB r.peeled)]
theorem flatR_len (rows : List RowR) : (flatR rows).length = rows.length * 3 := by
  unfold flatR
  induction rows with
  | nil => rfl
  | cons r rows ih => rw [List.flatMap_cons, List.length_append, ih]; simp; omega
theorem flatR_app (a b : List RowR) : flatR (a ++ b) = flatR a ++ flatR b := by unfold flatR; rw [List.flatMap_append]
theorem flatR_get : ∀ (rows : List RowR) (i : Nat) (h : i < rows.length), (flatR rows)[i * 3]? = some (.string (mkB rows[i].name)) ∧ (flatR rows)[i * 3 + 1]? = some (.string (mkB rows[i].id)) ∧ (flatR rows)[i * 3 + 2]? = some (.string (mkB rows[i].peeled))
  | [], i, h => by simp at h
  | r :: rows, 0, h => by simp [flatR]
  | r :: rows, i + 1, h => by
    have ih := flatR_get rows i (by simpa using h)
    have e : flatR (r :: rows) = .string (mkB r.name) :: .string (mkB r.id) :: .string (mkB r.peeled) :: flatR rows := by simp [flatR]
    rw [e, show (i + 1) * 3 = i * 3 + 3 by omega, show i * 3 + 3 + 1 = i * 3 + 1 + 3 by omega, show i * 3 + 3 + 2 = i * 3 + 2 + 3 by omega]
    simpa using ih
def OwnR (w : World) (B : Nat) (v : Value) (rows : List RowR) : Prop := w.ownsRow B 68 3 v rows.length (flatR rows)
theorem OwnR.push {w : World} {B : Nat} {v : Value} {rows : List RowR} {n i : List UInt8} (h : w.ownsRow B 68 3 v (rows.length + 1) (flatR rows ++ [.string (mkB n), .string (mkB i), .string (mkB [])])) : OwnR w B v (rows ++ [⟨n, i, []⟩]) := by
  unfold OwnR
  rw [flatR_app, List.length_append]
  exact h
theorem OwnR.below {w w' : World} {B : Nat} {v : Value} {rows : List RowR} (h : OwnR w B v rows) (hb : Below w.heap.size w w') : OwnR w' B v rows := h.kept (below_none hb) (by
  cases hv : v.ownBlock with
  | none => exact .inl rfl
  | some x => exact .inr (by simp))
/-- rows as a walk reads them -/
def RowsV (w : World) (g : Nat) (rows : List RowR) : Prop := ∀ i (h : i < rows.length), w.cell? ⟨g, i * 3, none⟩ = some (.string (mkB rows[i].name)) ∧ w.cell? ⟨g, i * 3 + 1, none⟩ = some (.string (mkB rows[i].id)) ∧ w.cell? ⟨g, i * 3 + 2, none⟩ = some (.string (mkB rows[i].peeled))
theorem RowsV.below {w w' : World} {g B : Nat} {rows : List RowR} (h : RowsV w g rows) (hb : Below B w w') (hB : g < B) : RowsV w' g rows := fun i hi =>
  ⟨(hb.cell (p := ⟨g, i * 3, none⟩) hB).trans (h i hi).1, (hb.cell (p := ⟨g, i * 3 + 1, none⟩) hB).trans (h i hi).2.1, (hb.cell (p := ⟨g, i * 3 + 2, none⟩) hB).trans (h i hi).2.2⟩
theorem OwnR.slice {w : World} {B : Nat} {v : Value} {rows : List RowR} (h : OwnR w B v rows) (hv : v ≠ .slice none 0 0) : ∃ g c, v = .slice (some ⟨g, 0, none⟩) rows.length c ∧ B ≤ g ∧ g < w.heap.size ∧ RowsV w g rows := by
  have h' := h
  rcases h.2 with ⟨hnil, hn⟩ | ⟨g, cap, cur, rfl, hbase, hbk, h1, h2, h3, h4⟩
  · exact absurd hnil hv
  · refine ⟨g, cap, rfl, hbase, (Array.getElem?_eq_some_iff.1 hbk).1, fun i hi => ?_⟩
    have hh := flatR_get rows i hi
    have c1 := World.ownsRow.cells h' (g := g) rfl (i * 3) _ hh.1
    have c2 := World.ownsRow.cells h' (g := g) rfl (i * 3 + 1) _ hh.2.1
    have c3 := World.ownsRow.cells h' (g := g) rfl (i * 3 + 2) _ hh.2.2
    rw [Addr.add_lit, Nat.zero_add] at c1 c2 c3
    exact ⟨c1, c2, c3⟩
theorem OwnR.nonnil {w : World} {B : Nat} {v : Value} {rows : List RowR} (h : OwnR w B v rows) (hf : rows ≠ []) : v ≠ .slice none 0 0 := by
  rcases h.2 with ⟨hnil, hn⟩ | ⟨g, cap, cur, rfl, _⟩
  · exact absurd (List.eq_nil_of_length_eq_zero hn) hf
  · simp
theorem flatR_set (I : List RowR) (r : RowR) (p : List UInt8) : (flatR (I ++ [r])).set (I.length * 3 + 2) (.string (mkB p)) = flatR (I ++ [⟨r.name, r.id, p⟩]) := by
  rw [flatR_app, flatR_app, List.set_append_right _ _ (by rw [flatR_len]; omega), flatR_len]
  congr 1
  rw [show I.length * 3 + 2 - I.length * 3 = 2 by omega]
  rfl
theorem cell_new_list (w : World) (xs : List Value) (T : TypeId) : ∀ (j : Nat) u, xs[j]? = some u → ((w.alloc (.cells xs.toArray T)).drew).cell? ((⟨w.heap.size, 0, none⟩ : Addr).add j) = some u := by
  intro j u hj
  rw [Addr.add_lit]
  show (w.alloc (.cells xs.toArray T)).cell? _ = _
  rw [World.cell?_alloc_mark w _ T (0, 0) (0 + j), Nat.zero_add]
  simpa using hj
theorem own_some {w : World} {B : Nat} {e : TypeId} {size : Nat} {v : Value} {n : Nat} {xs : List Value} (h : w.ownsRow B e size v (n + 1) xs) : ∃ g c, v = .slice (some ⟨g, 0, none⟩) (n + 1) c := by
  rcases h.2 with ⟨_, hn⟩ | ⟨g, cap, cur, rfl, _⟩
  · omega
  · exact ⟨g, cap, rfl⟩
theorem byte_at (l : List UInt8) (c : UInt8) : Lib.indexByte l c = if l.contains c then ((l.takeWhile (· != c)).length : Int) else -1 := by
  rw [← index_one]; exact (Lib.index_one _ _).symm
theorem mkB_ext (l : List UInt8) (a b : Nat) : (mkB l).extract a b = mkB ((l.drop a).take (b - a)) := ba_eq (by rw [Lib.extract_data, mkB_list, mkB_list])
theorem ext_of (s : ByteArray) (a b : Nat) : s.extract a b = mkB ((s.data.toList.drop a).take (b - a)) := ba_eq (by rw [Lib.extract_data, mkB_list])
theorem ext_line (s : ByteArray) (c : UInt8) : s.extract 0 (s.data.toList.takeWhile (· != c)).length = mkB (s.data.toList.takeWhile (· != c)) := by
  rw [ext_of, Nat.sub_zero, List.drop_zero, take_take_while]
theorem ext_rest (s : ByteArray) (c : UInt8) : s.extract ((s.data.toList.takeWhile (· != c)).length + 1) s.size = mkB ((s.data.toList.dropWhile (· != c)).drop 1) := by
  rw [ext_of, ← List.drop_drop, drop_take_while, List.take_of_length_le]
  have h := congrArg List.length (List.takeWhile_append_dropWhile (p := (· != c)) (l := s.data.toList))
  rw [List.length_append, sl_len] at h
  rw [List.length_drop]
  omega
theorem ext_tail (l : List UInt8) (a : Nat) : (mkB l).extract a (mkB l).size = mkB (l.drop a) := by
  rw [mkB_ext, List.take_of_length_le]
  rw [List.length_drop, mkB_size]; exact Nat.le_refl _
/-- append onto a slice of the call's own, as one step of a region that draws. -/
theorem step_append_own {P : Program} {ops : Array Oper} {o : Oper} {a : Act} {w : World} {K : Act → World → Prop} {Q : Exit → Act → World → Prop} {E : Prop}
    (hg : o.guard = none) (s x : Operand) (t : TypeId) (hop : o.op = Op.call { callee := Callee.builtin Builtin.append, args := #[s, x], argTypes := #[t, t] })
    (base : Nat) (e : TypeId) (i : TypeInfo) (z : Value) (size bytes : Nat) (h1 : P.underlying t = some (.slice e)) (h2 : P.info? e = some i) (h3 : i.zero = some z) (h4 : i.size = size) (h5 : i.bytes = bytes) (h6 : z.cells.size = size) (h7 : 0 < size)
    (v : Value) (n : Nat) (xs : List Value) (hs : a.eval s = v) (hown : w.ownsRow base e size v n xs)
    (ad : Addr) (m c : Nat) (news : List Value) (hx : a.eval x = .slice (some ad) m c) (hn : news.length = m * size) (hc : ∀ j u, news[j]? = some u → w.cell? (ad.add j) = some u) (h1c : ∀ u ∈ news, u.oneCell' = true)
    (b1 : n + m ≤ maxLen) (b2 : (n + m) * bytes ≤ 140737488355328) (b3 : base ≤ w.heap.size)
    (hK : ∀ v' w', w'.ownsRow base e size v' (n + m) (xs ++ news) → w.grownBy w' v.ownBlock → K (a.put o.dst v') w') :
    if Region.wanted o (yielded ops a.tmps) = true then Oper.wp P o a w K Q else E := by
  have hw : Region.wanted o (yielded ops a.tmps) = true := by simp [Region.wanted, hg]
  rw [if_pos hw]
  obtain ⟨v', w', hrun, r1, r2, _⟩ := run_append_own (P := P) w base t o.type e i z size bytes h1 h2 h3 h4 h5 h6 h7 v n xs hown ad m c news hn hc h1c b1 b2 b3
  unfold Oper.wp
  simp [execOp, hop, resolve, invoke, builtin, hs, hx, hrun, Result.andThen]
  exact hK v' w' r1 r2
end Go.Proofs.YtjoomlpocpdonaaGreatDoor
namespace Go.Proofs.YtjoomlpocpdonaaGreatDoor
open Go.RowKit

def ROpenPost (w0 : World) (r : Nat × List RowR) (e : Ending) (w : World) : Prop :=
  (r.1 ≠ 0 ∧ e = .returned (.tuple #[.slice none 0 0, .int .i64 (r.1 : Nat)])) ∨
  (r.1 = 0 ∧ RowsOk r.2 ∧ ∃ g cap, e = .returned (.tuple #[.slice (some ⟨g, 0, none⟩) r.2.length cap, .int .i64 0]) ∧ w0.heap.size ≤ g ∧ g < w.heap.size ∧ RowsV w g r.2)
theorem ropen_get {fs : List FileB} {e : Ending} (ha : Apart fs) (h : RGetPost fs ⟨#[112, 97, 99, 107, 101, 100, 45, 114, 101, 102, 115]⟩ e) :
    (∃ f ∈ fs, textL fs = f.2.data.toList ∧ e = .returned (.tuple #[.string f.2, .bool true])) ∨ (textL fs = [] ∧ e = .returned (.tuple #[.string .empty, .bool false])) := by
  rcases h with ⟨f, hf, he, hr⟩ | ⟨hn, hr⟩
  · left
    refine ⟨f, hf, ?_, hr⟩
    have h := getL_some ha hf
    rw [he] at h
    unfold textL
    rw [show getL fs packedL = some f.2.data.toList from h]; rfl
  · right
    refine ⟨?_, hr⟩
    unfold textL
    rw [show getL fs packedL = none from getL_none fun f hf e => hn f hf (ba_eq e)]; rfl
theorem step_eq (rows : List RowR) (l : List UInt8) : stepR rows l = if Lib.hasPrefix l [35] = true then (0, rows) else if Lib.hasPrefix l [94] = true then (if lastR rows = [] ∨ idB (l.drop 1) = false then (3, rows) else (0, peelR rows (l.drop 1))) else packR rows l := rfl
set_option maxRecDepth 100000 in
set_option maxHeartbeats 8000000 in
theorem ropen_any (b off c : Nat) (fs : List FileB) (w : World) (hb : b < w.heap.size) (hf : FilesAt w b off fs) (hl : fs.length ≤ 1000) (ha : Apart fs) (hs : ∀ f ∈ fs, f.2.size ≤ 4194304) :
    Calls Tryz.prog 10 #[.slice (some ⟨b, off, none⟩) fs.length c] w fun e w' => ROpenPost w (parsed (textL fs)) e w' ∧ Below w.heap.size w w' := by
  have HGT := hidM (rget_any b off c fs ⟨#[112, 97, 99, 107, 101, 100, 45, 114, 101, 102, 115]⟩ w hb hf (by omega))
  have HAP := hidM ha
  have HS := hidM hs
  obtain ⟨ANS, hans⟩ : ∃ ANS, parsed (textL fs) = ANS := ⟨_, rfl⟩
  rw [hans]
  have HAN := hidM hans
  obtain ⟨i0, hi, hz0, hz1, hz2⟩ := info_parts info68
  clear hf ha hs hans
  go_enter Tryz.func10, Tryz.ntmps10
  go_wp2_with fail
  refine HGT.out.mono ?_
  rintro _ w1 ⟨hp, hb1⟩
  have HB1 := hidM hb1
  have HO0 : Hid (OwnR (w1.alloc (.cells #[] 68)) w.heap.size (.slice (some ⟨w1.heap.size, 0, none⟩) 0 0) []) := World.ownsRow_made w1 #[] 0 hb1.size (Nat.zero_le _) (by simp)
  have HB0 : Hid (Below w.heap.size w (w1.alloc (.cells #[] 68))) := hb1.alloc hb1.size _
  have hb1s := hb1.size
  clear hb1 HGT
  rcases ropen_get HAP.out hp with ⟨f, hf, htx, rfl⟩ | ⟨htx, rfl⟩
  case inr =>
    have HF : Hid (ANS = (0, [])) := by
      unfold Hid
      rw [← HAN.out, htx]; rfl
    clear htx HAN hp
    have HFI : Hid (∀ e, e = .returned (.tuple #[.slice (some ⟨w1.heap.size, 0, none⟩) 0 0, .int .i64 0]) → ROpenPost w ANS e (w1.alloc (.cells #[] 68))) := fun e he =>
      .inr ⟨by rw [HF.out], by rw [HF.out]; exact RowsOk.nil, w1.heap.size, 0, by rw [HF.out]; exact he, hb1s, by simp, by rw [HF.out]; exact fun i h => by simp at h⟩
    go_wp2_with fail
    refine wp_loop_rounds 1 ?_
    rw [rounds_succ]
    go_wp2_with fail
    go_ret2
    exact ⟨HFI.out _ rfl, HB0.out⟩
  have HTZ := HS.out f hf
  have HAA : Hid (∃ n, f.2.data.toList.length ≤ n ∧ parseR n [] f.2.data.toList = ANS) := ⟨_, Nat.le_refl _, by rw [← HAN.out, htx]; rfl⟩
  generalize f.2 = T0 at *
  clear hf htx HAN hp HS HAP
  go_wp2_with fail
  go_loopw [4, 6] (fun tv rv wr => ∃ (T : ByteArray) (rows : List RowR), tv = .string T ∧ T.size ≤ 4194304 ∧ RowsOk rows ∧ OwnR wr w.heap.size rv rows ∧ rv ≠ .slice none 0 0 ∧ (∃ n, T.data.toList.length ≤ n ∧ parseR n rows T.data.toList = ANS) ∧ Below w.heap.size w wr) (fun tv _ _ => strLen tv)
  case atStart => exact ⟨T0, [], rfl, HTZ, RowsOk.nil, HO0.out, by simp, HAA.out, HB0.out⟩
  case round =>
    obtain ⟨T, rows, rfl, hts, hok, hown, hnn, ⟨n, hn, han⟩, hbr⟩ := hrel
    have HOK := hidM hok
    have HO := hidM hown
    have HNN := hidM hnn
    have HB := hidM hbr
    have HAA2 := hidM han
    have hsz := hbr.size
    have hrl := hok.len
    clear hok hown hnn han hbr HAA HO0 HB0 HB1 HTZ
    by_cases h0 : T.data.toList = []
    · have e1 : T.toList.isEmpty = true := by rw [ByteArray.toList_eq, h0]; rfl
      have HF : Hid (ANS = (0, rows)) := by unfold Hid; rw [← HAA2.out, h0, parse_nil]
      obtain ⟨g, cp, rfl, hg, hgl, hrv⟩ := HO.out.slice HNN.out
      have HFI : Hid (∀ e, e = .returned (.tuple #[.slice (some ⟨g, 0, none⟩) rows.length cp, .int .i64 0]) → ROpenPost w ANS e wr) := fun e he =>
        .inr ⟨by rw [HF.out], by rw [HF.out]; exact HOK.out, g, cp, by rw [HF.out]; exact he, hg, hgl, by rw [HF.out]; exact hrv⟩
      clear h0 hn hts HAA2 hrv HNN
      go_wp2_with fail
      go_ret2
      exact ⟨HFI.out _ rfl, HB.out⟩
    have e1 : T.toList.isEmpty = false := by
      rw [ByteArray.toList_eq]
      cases hq : T.data.toList with
      | nil => exact absurd hq h0
      | cons a l => rfl
    obtain ⟨j, rfl⟩ : ∃ j, n = j + 1 := ⟨n - 1, by have := List.length_pos_iff.2 h0; omega⟩
    have hrest := rest_less h0
    have HA2 := hidM HAA2.out
    rw [parse_cons h0] at HA2
    have HFD := hidM (findB_any T 10 wr (by omega))
    rw [byte_at] at HFD
    have hq1 := ext_line T 10
    have hq2 := ext_rest T 10
    have hlen : T.data.toList.contains 10 = true → (T.data.toList.takeWhile (· != 10)).length < T.size := fun h => by
      have h2 := drop_while_some h
      have h3 := congrArg List.length (List.takeWhile_append_dropWhile (p := (· != (10 : UInt8))) (l := T.data.toList))
      rw [List.length_append, h2, List.length_cons, sl_len] at h3
      omega
    rw [sl_len] at hrest hn
    clear h0 HAA2
    generalize T.data.toList.contains 10 = cc at *
    generalize T.data.toList.takeWhile (· != 10) = L at *
    generalize (T.data.toList.dropWhile (· != 10)).drop 1 = Z at *
    cases cc with
    | false =>
      have HF : Hid (ANS = (3, rows)) := by unfold Hid; rw [← HA2.out, if_pos rfl]
      rw [if_neg (by decide)] at HFD
      clear HA2 hrest hn hts hq1 hq2 hlen
      go_wp2_with fail
      refine HFD.out.mono ?_
      rintro _ w1 ⟨rfl, rfl⟩
      go_wp2_with fail
      go_ret2
      refine ⟨.inl ⟨by rw [HF.out]; simp, by rw [HF.out]; rfl⟩, HB.out⟩
    | true =>
    have hln := hlen rfl
    rw [if_pos rfl] at HFD
    have HA3 : Hid ((if (stepR rows L).1 = 0 then parseR j (stepR rows L).2 Z else ((stepR rows L).1, rows)) = ANS) := by
      unfold Hid; rw [← HA2.out, if_neg (show ¬ (true = false) by decide)]
    have HERR : Hid (∀ er, er ≠ 0 → (stepR rows L).1 = er → ANS = (er, rows)) := fun er h1 h2 => by
      rw [← HA3.out, if_neg (by rw [h2]; exact h1), h2]
    have HGO : Hid ((stepR rows L).1 = 0 → ∃ n, (mkB Z).data.toList.length ≤ n ∧ parseR n (stepR rows L).2 (mkB Z).data.toList = ANS) := fun h => by
      refine ⟨j, by rw [mkB_list]; omega, by rw [mkB_list]; rw [← HA3.out, if_pos h]⟩
    have HERR0 := hidM HERR.out
    have HOKS := hidM (step_ok HOK.out L)
    have hzs : (mkB Z).size ≤ 4194304 ∧ (mkB Z).size < T.size := by rw [mkB_size]; omega
    have HZ1 := hidM hzs.1
    have HZ2 := hidM hzs.2
    have hll : L.length ≤ 4194304 := by omega
    obtain ⟨nn, hnn⟩ : ∃ nn, nn = L.length := ⟨_, rfl⟩
    obtain ⟨n1, hn1⟩ : ∃ n1, n1 = L.length + 1 := ⟨_, rfl⟩
    rw [← hn1] at hq2
    rw [← hnn] at hq1 HFD hln
    have j1 : (nn : Int) ≤ (T.size : Int) := by omega
    have j2 : (nn : Int) + 1 = (n1 : Int) := by omega
    have j3 : (n1 : Int) ≤ (T.size : Int) := by omega
    have j4 : (0 : Int) ≤ (n1 : Int) := by omega
    have hlz : (mkB L).size = L.length := mkB_size L
    have HB35 := hidM (begins_any (mkB L) ⟨#[35]⟩ wr)
    have HB94 := hidM (begins_any (mkB L) ⟨#[94]⟩ wr)
    rw [mkB_list, show (⟨#[35]⟩ : ByteArray).data.toList = [35] from rfl] at HB35
    rw [mkB_list, show (⟨#[94]⟩ : ByteArray).data.toList = [94] from rfl] at HB94
    have HST := hidM (step_eq rows L)
    have hx1 := ext_tail L 1
    have hx41 := ext_tail L 41
    have hx40 : (mkB L).extract 0 40 = mkB (L.take 40) := by rw [mkB_ext, List.drop_zero]
    clear HA2 HA3 hrest hn hzs hlen
    cases hp35 : Lib.hasPrefix L [35] with
    | true =>
      rw [hp35] at HB35
      have HS2 : Hid (stepR rows L = (0, rows)) := by unfold Hid; rw [HST.out, if_pos hp35]
      have HG2 := hidM (HGO.out (by rw [HS2.out]))
      rw [HS2.out] at HG2
      clear HST HERR HGO HOKS hp35 hx1 hx41 hx40 hnn hn1 hlz hll HB94
      generalize mkB L = LB at *
      generalize mkB Z = ZB at *
      go_wp2_with fail
      refine HFD.out.mono ?_
      rintro _ w1 ⟨rfl, rfl⟩

      go_wp2_with fail
      refine HB35.out.mono ?_
      rintro _ w1 ⟨rfl, rfl⟩
      go_wp2_with fail
      go_roundw
      case rel => exact ⟨ZB, rows, rfl, HZ1.out, HOK.out, HO.out, HNN.out, HG2.out, HB.out⟩
      case measure => exact HZ2.out
    | false =>
    rw [hp35] at HB35
    cases hp94 : Lib.hasPrefix L [94] with
    | true =>
      rw [hp94] at HB94
      have HS2 : Hid (stepR rows L = (if lastR rows = [] ∨ idB (L.drop 1) = false then (3, rows) else (0, peelR rows (L.drop 1)))) := by unfold Hid; rw [HST.out, if_neg (by rw [hp35]; decide), if_pos hp94]
      have h1l : (1 : Int) ≤ ((mkB L).size : Int) := by
        rw [hlz]
        cases hq : L with
        | nil => rw [hq] at hp94; cases hp94
        | cons a l => simp; omega
      have HID := hidM (fun W => rid_any (mkB (L.drop 1)) W)
      rw [mkB_list] at HID
      clear HST hp35 hp94 hx41 hx40 hnn hn1 hlz hll
      rcases List.eq_nil_or_concat rows with hrn | ⟨I, r, hrn⟩
      · subst hrn
        have HF := hidM (HERR.out 3 (by decide) (by rw [HS2.out, if_pos (.inl rfl)]))
        clear HERR HGO HOKS HS2
        obtain ⟨g, cp, rfl, hg, hgl, hrv⟩ := HO.out.slice HNN.out
        clear hrv
        generalize mkB L = LB at *
        generalize mkB Z = ZB at *
        go_wp2_with fail
        refine HFD.out.mono ?_
        rintro _ w1 ⟨rfl, rfl⟩

        go_wp2_with fail
        refine HB35.out.mono ?_
        rintro _ w1 ⟨rfl, rfl⟩

        go_wp2_with fail
        refine HB94.out.mono ?_
        rintro _ w1 ⟨rfl, rfl⟩

        go_wp2_with fail
        go_ret2
        refine ⟨.inl ⟨by rw [HF.out]; simp, by rw [HF.out]; rfl⟩, HB.out⟩
      rw [List.concat_eq_append] at hrn
      have hname : r.name ≠ [] := name_ne (HOK.out.named r (by rw [hrn]; simp)).1
      have hlst : lastR rows = if r.peeled = [] then r.name else [] := by rw [hrn, last_snoc]
      obtain ⟨g, cp, rfl, hg, hgl, hrv⟩ := HO.out.slice HNN.out
      obtain ⟨m, hm⟩ : ∃ m, m = I.length := ⟨_, rfl⟩
      have hrm : rows.length = m + 1 := by rw [hrn, hm]; simp
      have hcell : wr.cell? ⟨g, m * 3 + 2, none⟩ = some (.string (mkB r.peeled)) := by
        have hrr : ∀ (h : m < rows.length), rows[m] = r := fun h => by subst hm; simp [hrn]
        have := (hrv m (by omega)).2.2
        rw [hrr] at this
        exact this
      have HOW : Hid (wr.ownsRow w.heap.size 68 3 (.slice (some ⟨g, 0, none⟩) (m + 1) cp) (m + 1) (flatR (I ++ [r]))) := by
        have := HO.out
        unfold OwnR at this
        rw [hrm, hrn] at this
        exact this
      have hfz : wr.frozen? ⟨g, m * 3 + 2, none⟩ = false := World.ownsRow.frozenAt HOW.out _
      have k4 : m ≤ 2000 := by omega
      rw [hrm] at *
      have k1 : ((m + 1 : Nat) : Int) - 1 = (m : Int) := by omega
      have k2 : (m : Int) < ((m + 1 : Nat) : Int) := by omega
      have k3 : ¬ ((m + 1 : Nat) : Int) = 0 := by omega
      by_cases hpe : r.peeled = []
      · have hz0' : (mkB r.peeled).toList.isEmpty = true := by rw [hpe, mkB_toList]; rfl
        cases hid : idB (L.drop 1) with
        | false =>
          rw [hid] at HID
          have HF := hidM (HERR.out 3 (by decide) (by rw [HS2.out, if_pos (.inr hid)]))
          clear HERR HGO HOKS HS2 hlst hrn hrm hm hrv hpe hid HOW hname
          generalize m + 1 = m1 at *
          generalize mkB L = LB at *
          generalize mkB (L.drop 1) = IB at *
          generalize mkB r.peeled = PB at *
          generalize mkB Z = ZB at *
          go_wp2_with fail
          refine HFD.out.mono ?_
          rintro _ w1 ⟨rfl, rfl⟩

          go_wp2_with fail
          refine HB35.out.mono ?_
          rintro _ w1 ⟨rfl, rfl⟩

          go_wp2_with fail
          refine HB94.out.mono ?_
          rintro _ w1 ⟨rfl, rfl⟩

          go_wp2_with fail
          refine (HID.out _).mono ?_
          rintro _ w1 ⟨rfl, rfl⟩

          go_wp2_with fail
          go_ret2
          refine ⟨.inl ⟨by rw [HF.out]; simp, by rw [HF.out]; rfl⟩, HB.out⟩
        | true =>
          rw [hid] at HID
          have hst : stepR rows L = (0, I ++ [⟨r.name, r.id, L.drop 1⟩]) := by
            rw [HS2.out, if_neg (by rw [not_or, hlst, if_pos hpe]; exact ⟨hname, by rw [hid]; decide⟩), hrn, peel_snoc]
          have HG2 := hidM (HGO.out (by rw [hst]))
          have HOK2 := HOKS
          rw [hst] at HG2 HOK2
          have HFS := hidM (flatR_set I r (L.drop 1))
          rw [← hm] at HFS
          have HIL : Hid ((I ++ [(⟨r.name, r.id, L.drop 1⟩ : RowR)]).length = m + 1) := by unfold Hid; rw [hm]; simp
          have HOF : Hid (∀ W v, W.ownsRow w.heap.size 68 3 v (m + 1) ((flatR (I ++ [r])).set (m * 3 + 2) (.string (mkB (L.drop 1)))) → OwnR W w.heap.size v (I ++ [⟨r.name, r.id, L.drop 1⟩])) := fun W v h => by
            unfold OwnR
            rw [HIL.out, ← HFS.out]; exact h
          clear HERR HGO HOKS HS2 hlst hrn hrm hm hrv hpe hid hname hst HFS
          generalize (I ++ [(⟨r.name, r.id, L.drop 1⟩ : RowR)]) = rows2 at *
          generalize flatR (I ++ [r]) = FR at *
          generalize m + 1 = m1 at *
          generalize mkB L = LB at *
          generalize mkB (L.drop 1) = IB at *
          generalize mkB r.peeled = PB at *
          generalize mkB Z = ZB at *
          go_wp2_with fail
          refine HFD.out.mono ?_
          rintro _ w1 ⟨rfl, rfl⟩

          go_wp2_with fail
          refine HB35.out.mono ?_
          rintro _ w1 ⟨rfl, rfl⟩

          go_wp2_with fail
          refine HB94.out.mono ?_
          rintro _ w1 ⟨rfl, rfl⟩

          go_wp2_with fail
          refine (HID.out _).mono ?_
          rintro _ w1 ⟨rfl, rfl⟩
          have HSD := hidM (World.ownsRow.stored HOW.out (m * 3 + 2) (.string IB))
          have HO5 : Hid (OwnR (w1.setCell ⟨g, m * 3 + 2, none⟩ (.string IB)) w.heap.size (.slice (some ⟨g, 0, none⟩) m1 cp) rows2) := HOF.out _ _ HSD.out.1
          have HB5 : Hid (Below w.heap.size w (w1.setCell ⟨g, m * 3 + 2, none⟩ (.string IB))) := HB.out.grown HSD.out.2 hsz (fun j hj => by cases hj; exact hg)
          clear HSD
          go_wp2_with fail
          go_roundw
          case rel => exact ⟨ZB, rows2, rfl, HZ1.out, HOK2.out, HO5.out, by simp, HG2.out, HB5.out⟩
          case measure => exact HZ2.out
      · have hz0' : (mkB r.peeled).toList.isEmpty = false := by
          rw [mkB_toList]
          cases hq : r.peeled with
          | nil => exact absurd hq hpe
          | cons a t => rfl
        have HF := hidM (HERR.out 3 (by decide) (by rw [HS2.out, if_pos (.inl (by rw [hlst, if_neg hpe]))]))
        clear HERR HGO HOKS HS2 hlst hrn hrm hm hrv hpe HOW hname
        generalize m + 1 = m1 at *
        generalize mkB L = LB at *
        generalize mkB r.peeled = PB at *
        generalize mkB Z = ZB at *
        go_wp2_with fail
        refine HFD.out.mono ?_
        rintro _ w1 ⟨rfl, rfl⟩

        go_wp2_with fail
        refine HB35.out.mono ?_
        rintro _ w1 ⟨rfl, rfl⟩

        go_wp2_with fail
        refine HB94.out.mono ?_
        rintro _ w1 ⟨rfl, rfl⟩

        go_wp2_with fail
        go_ret2
        refine ⟨.inl ⟨by rw [HF.out]; simp, by rw [HF.out]; rfl⟩, HB.out⟩
    | false =>
    rw [hp94] at HB94
    have HS2 : Hid (stepR rows L = packR rows L) := by unfold Hid; rw [HST.out, if_neg (by rw [hp35]; decide), if_neg (by rw [hp94]; decide)]
    have HPK : Hid (badP L = true → stepR rows L = (3, rows)) := fun h => by rw [HS2.out]; unfold packR; rw [if_pos h]
    have HBA := hidM (bad_at L)
    clear HST hp35 hp94 hx1 hnn hn1
    by_cases h41 : L.length < 41
    · have HF := hidM (HERR.out 3 (by decide) (by rw [HPK.out (HBA.out.2 (.inl h41))]))
      have g41 : ((mkB L).size : Int) < 41 := by omega
      clear HERR HGO HOKS HS2 HPK HBA h41 hlz hll hx41 hx40
      generalize mkB L = LB at *
      generalize mkB Z = ZB at *
      go_wp2_with fail
      refine HFD.out.mono ?_
      rintro _ w1 ⟨rfl, rfl⟩

      go_wp2_with fail
      refine HB35.out.mono ?_
      rintro _ w1 ⟨rfl, rfl⟩

      go_wp2_with fail
      refine HB94.out.mono ?_
      rintro _ w1 ⟨rfl, rfl⟩

      go_wp2_with fail
      go_ret2
      refine ⟨.inl ⟨by rw [HF.out]; simp, by rw [HF.out]; rfl⟩, HB.out⟩
    have h40 : 40 < L.length := by omega
    have g41 : ¬ ((mkB L).size : Int) < 41 := by omega
    have hls : 40 < (mkB L).size := by omega
    have hls2 : (40 : Int) < ((mkB L).size : Int) := by omega
    have hls3 : (40 : Int) ≤ ((mkB L).size : Int) := by omega
    have hls4 : (41 : Int) ≤ ((mkB L).size : Int) := by omega
    obtain ⟨ch, hch⟩ : ∃ ch : UInt8, ch = L[40] := ⟨_, rfl⟩
    have r40 : (((mkB L)[40]'hls).toNat : Int) = ((ch.toNat : Nat) : Int) := by rw [hch]; rfl
    have hget : L[40]? = some ch := by rw [hch]; exact List.getElem?_eq_getElem h40
    by_cases hsp : ch = 32
    case neg =>
      have HF := hidM (HERR.out 3 (by decide) (by rw [HPK.out (HBA.out.2 (.inr (.inl (by rw [hget]; intro e; exact hsp (Option.some.inj e)))))]))
      have qc : ¬ ((ch.toNat : Nat) : Int) = 32 := by
        have : ch.toNat ≠ 32 := fun e => hsp (UInt8.toNat_inj.1 e)
        omega
      clear HERR HGO HOKS HS2 HPK HBA h41 hlz hll hx41 hx40 hsp hget hch h40
      generalize ch.toNat = cn at *
      generalize mkB L = LB at *
      generalize mkB Z = ZB at *
      go_wp2_with fail
      refine HFD.out.mono ?_
      rintro _ w1 ⟨rfl, rfl⟩

      go_wp2_with fail
      refine HB35.out.mono ?_
      rintro _ w1 ⟨rfl, rfl⟩

      go_wp2_with fail
      refine HB94.out.mono ?_
      rintro _ w1 ⟨rfl, rfl⟩

      go_wp2_with fail
      go_ret2
      refine ⟨.inl ⟨by rw [HF.out]; simp, by rw [HF.out]; rfl⟩, HB.out⟩
    have r40 : (((mkB L)[40]'hls).toNat : Int) = 32 := by rw [r40, hsp]; rfl
    have HID := hidM (fun W => rid_any (mkB (L.take 40)) W)
    rw [mkB_list] at HID
    have HNM := hidM (fun W => rname_any (mkB (L.drop 41)) W)
    rw [mkB_list] at HNM
    cases hid : idB (L.take 40) with
    | false =>
      rw [hid] at HID
      have HF := hidM (HERR.out 3 (by decide) (by rw [HPK.out (HBA.out.2 (.inr (.inr (.inl hid))))]))
      clear HERR HGO HOKS HS2 HPK HBA h41 hlz hll hsp hget hch h40 hid HNM
      generalize mkB (L.take 40) = IB at *
      generalize mkB (L.drop 41) = NB at *
      generalize mkB L = LB at *
      generalize mkB Z = ZB at *
      go_wp2_with fail
      refine HFD.out.mono ?_
      rintro _ w1 ⟨rfl, rfl⟩

      go_wp2_with fail
      refine HB35.out.mono ?_
      rintro _ w1 ⟨rfl, rfl⟩

      go_wp2_with fail
      refine HB94.out.mono ?_
      rintro _ w1 ⟨rfl, rfl⟩

      go_wp2_with fail
      refine (HID.out _).mono ?_
      rintro _ w1 ⟨rfl, rfl⟩

      go_wp2_with fail
      go_ret2
      refine ⟨.inl ⟨by rw [HF.out]; simp, by rw [HF.out]; rfl⟩, HB.out⟩
    | true =>
    rw [hid] at HID
    cases hnm : nameL (L.drop 41) with
    | false =>
      rw [hnm] at HNM
      have HF := hidM (HERR.out 3 (by decide) (by rw [HPK.out (HBA.out.2 (.inr (.inr (.inr (.inl hnm)))))]))
      clear HERR HGO HOKS HS2 HPK HBA h41 hlz hll hsp hget hch h40 hid hnm
      generalize mkB (L.take 40) = IB at *
      generalize mkB (L.drop 41) = NB at *
      generalize mkB L = LB at *
      generalize mkB Z = ZB at *
      go_wp2_with fail
      refine HFD.out.mono ?_
      rintro _ w1 ⟨rfl, rfl⟩

      go_wp2_with fail
      refine HB35.out.mono ?_
      rintro _ w1 ⟨rfl, rfl⟩

      go_wp2_with fail
      refine HB94.out.mono ?_
      rintro _ w1 ⟨rfl, rfl⟩

      go_wp2_with fail
      refine (HID.out _).mono ?_
      rintro _ w1 ⟨rfl, rfl⟩

      go_wp2_with fail
      refine (HNM.out _).mono ?_
      rintro _ wz ⟨rfl, hbz⟩
      have HBZW := hidM (HB.out.trans (hbz.mono HB.out.size))
      clear hbz

      go_wp2_with fail
      go_ret2
      refine ⟨.inl ⟨by rw [HF.out]; simp, by rw [HF.out]; rfl⟩, HBZW.out⟩
    | true =>
    rw [hnm] at HNM
    by_cases hhd : L.drop 41 = headL
    · have HF := hidM (HERR.out 3 (by decide) (by rw [HPK.out (HBA.out.2 (.inr (.inr (.inr (.inr hhd)))))]))
      have e3 : ((mkB (L.drop 41)).toList == [72, 69, 65, 68]) = true := by rw [mkB_toList, hhd]; rfl
      clear HERR HGO HOKS HS2 HPK HBA h41 hlz hll hsp hget hch h40 hid hnm hhd
      generalize mkB (L.take 40) = IB at *
      generalize mkB (L.drop 41) = NB at *
      generalize mkB L = LB at *
      generalize mkB Z = ZB at *
      go_wp2_with fail
      refine HFD.out.mono ?_
      rintro _ w1 ⟨rfl, rfl⟩

      go_wp2_with fail
      refine HB35.out.mono ?_
      rintro _ w1 ⟨rfl, rfl⟩

      go_wp2_with fail
      refine HB94.out.mono ?_
      rintro _ w1 ⟨rfl, rfl⟩

      go_wp2_with fail
      refine (HID.out _).mono ?_
      rintro _ w1 ⟨rfl, rfl⟩

      go_wp2_with fail
      refine (HNM.out _).mono ?_
      rintro _ wz ⟨rfl, hbz⟩
      have HBZW := hidM (HB.out.trans (hbz.mono HB.out.size))
      clear hbz

      go_wp2_with fail
      go_ret2
      refine ⟨.inl ⟨by rw [HF.out]; simp, by rw [HF.out]; rfl⟩, HBZW.out⟩
    have e3 : ((mkB (L.drop 41)).toList == [72, 69, 65, 68]) = false := by rw [mkB_toList]; exact beq_false_of_ne hhd
    have hbf : badP L = false := by
      cases hq : badP L with
      | false => rfl
      | true =>
        rcases HBA.out.1 hq with h | h | h | h | h
        · omega
        · rw [hget, hsp] at h; exact absurd rfl h
        · rw [hid] at h; cases h
        · rw [hnm] at h; cases h
        · exact absurd h hhd
    have hsplit := bad_split hbf
    have HS3 : Hid (stepR rows L = if rows.any (fun r => r.name == L.drop 41) = true then (4, rows) else if rows.length = 2000 then (2, rows) else (0, rows ++ [⟨L.drop 41, L.take 40, []⟩])) := by
      unfold Hid
      rw [HS2.out]
      unfold packR
      rw [if_neg (by rw [hbf]; decide), hsplit.1, hsplit.2]
    have hnb := mkB_list (L.drop 41)
    obtain ⟨g, cp, rfl, hg, hgl, hrv⟩ := HO.out.slice HNN.out
    have HRV := hidM hrv
    have HEQ : Hid (∀ k (h : k < rows.length), ((mkB rows[k].name).toList == (mkB (L.drop 41)).toList) = (rows[k].name == L.drop 41)) := fun k h => by rw [mkB_toList, mkB_toList]
    clear HERR HS2 HPK HBA h41 hlz hll hsp hget hch h40 hid hnm hhd hbf hsplit hnb hrv
    have HER4 : Hid ((∃ k, ∃ h : k < rows.length, (rows[k].name == L.drop 41) = true) → ANS = (4, rows)) := fun ⟨k, h, hk⟩ => by
      have h2 : stepR rows L = (4, rows) := by
        rw [HS3.out, if_pos (List.any_eq_true.2 ⟨_, List.getElem_mem h, hk⟩)]
      exact HERR0.out 4 (by decide) (by rw [h2])
    have HNE : Hid ((∀ k (h : k < rows.length), (rows[k].name == L.drop 41) = false) → stepR rows L = if rows.length = 2000 then (2, rows) else (0, rows ++ [⟨L.drop 41, L.take 40, []⟩])) := fun h => by
      rw [HS3.out, if_neg]
      rw [Bool.not_eq_true, List.any_eq_false]
      intro x hx
      obtain ⟨k, hk, rfl⟩ := List.mem_iff_getElem.1 hx
      rw [h k hk]; decide
    have HPUSH : Hid (∀ W v, W.ownsRow w.heap.size 68 3 v (rows.length + 1) (flatR rows ++ [.string (mkB (L.drop 41)), .string (mkB (L.take 40)), .string (mkB [])]) → OwnR W w.heap.size v (rows ++ [⟨L.drop 41, L.take 40, []⟩])) := fun W v h => OwnR.push h
    have hrl2 : rows.length ≤ 2000 := hrl
    have HERX : Hid (rows.length = 2000 → (∀ k (h : k < rows.length), (rows[k].name == L.drop 41) = false) → ANS = (2, rows)) := fun h1 h2 => HERR0.out 2 (by decide) (by rw [HNE.out h2, if_pos h1])
    have HGOX : Hid (rows.length ≠ 2000 → (∀ k (h : k < rows.length), (rows[k].name == L.drop 41) = false) → (∃ n, (mkB Z).data.toList.length ≤ n ∧ parseR n (rows ++ [⟨L.drop 41, L.take 40, []⟩]) (mkB Z).data.toList = ANS) ∧ RowsOk (rows ++ [⟨L.drop 41, L.take 40, []⟩])) := fun h1 h2 => by
      have h3 : stepR rows L = (0, rows ++ [⟨L.drop 41, L.take 40, []⟩]) := by rw [HNE.out h2, if_neg h1]
      have h4 := HGO.out (by rw [h3])
      have h5 := HOKS.out
      rw [h3] at h4 h5
      exact ⟨h4, h5⟩
    clear HS3 HNE HGO HOKS HERR0
    generalize hND : L.drop 41 = ND at *
    generalize hID : L.take 40 = IDL at *
    generalize mkB IDL = IB at *
    generalize mkB ND = NB at *
    generalize mkB L = LB at *
    generalize mkB Z = ZB at *
    clear hND hID
    go_wp2_with fail
    refine HFD.out.mono ?_
    rintro _ w1 ⟨rfl, rfl⟩

    go_wp2_with fail
    refine HB35.out.mono ?_
    rintro _ w1 ⟨rfl, rfl⟩

    go_wp2_with fail
    refine HB94.out.mono ?_
    rintro _ w1 ⟨rfl, rfl⟩

    go_wp2_with fail
    refine (HID.out _).mono ?_
    rintro _ w1 ⟨rfl, rfl⟩

    go_wp2_with fail
    refine (HNM.out _).mono ?_
    rintro _ wz ⟨rfl, hbz⟩
    have HBZ := hidM hbz
    have HBZW := hidM (HB.out.trans (hbz.mono HB.out.size))
    have HOZ := hidM (HO.out.below hbz)
    clear hbz
    go_wp2_with fail
    go_loopw [91] (fun i wx => ∃ (k : Nat), k ≤ rows.length ∧ i = .int .i64 k ∧ (∀ t (h : t < rows.length), t < k → (rows[t].name == ND) = false) ∧ Below wz.heap.size wz wx) (fun i _ => rows.length - (intOf i).toNat)
    case atStart => exact ⟨0, Nat.zero_le _, rfl, fun t _ h => by omega, Below.refl _ _⟩
    case round =>
      obtain ⟨k, hk, rfl, hd, hbx⟩ := hrel
      have HD := hidM hd
      have HBX := hidM hbx
      have hszx := hbx.size
      clear hd hbx
      by_cases hlt : k < rows.length
      · have kk : (k : Int) < (rows.length : Int) := by omega
        have hrv2 := HRV.out.below (HBZ.out.trans (HBX.out.mono HBZ.out.size)) hgl k hlt
        have c1 := hrv2.1
        have c2 := hrv2.2.1
        have c3 := hrv2.2.2
        have heq := HEQ.out k hlt
        have HHIT : Hid ((rows[k].name == ND) = true → ANS = (4, rows)) := fun h => HER4.out ⟨k, hlt, h⟩
        have HMISS : Hid ((rows[k].name == ND) = false → ∀ t (h : t < rows.length), t < k + 1 → (rows[t].name == ND) = false) := fun h0 t h ht => by
          by_cases h5 : t < k
          · exact HD.out t h h5
          · obtain rfl : t = k := by omega
            exact h0
        have HBN := hidM (HBZW.out.trans (HBX.out.mono HBZW.out.size))
        clear hrv2
        generalize (rows[k].name == ND) = qq at *
        generalize mkB rows[k].name = X1 at *
        generalize mkB rows[k].id = X2 at *
        generalize mkB rows[k].peeled = X3 at *
        cases qq with
        | true =>
          have HF := hidM (HHIT.out rfl)
          clear HHIT HMISS
          go_wp2_with fail
          go_quiet (fail)
          go_wp2_with fail
          go_ret2
          refine ⟨.inl ⟨by rw [HF.out]; simp, by rw [HF.out]; rfl⟩, below_drewN (HBN.out.alloc HBN.out.size _) _⟩
        | false =>
          have HM := hidM (HMISS.out rfl)
          clear HHIT HMISS
          go_wp2_with fail
          go_quiet (fail)
          go_wp2_with fail
          go_roundw
          case rel => exact ⟨k + 1, by omega, by go_num, HM.out, below_drewN (HBX.out.alloc hszx _) _⟩
          case measure => (show rows.length - ((k : Int) + 1).toNat < rows.length - ((k : Int)).toNat); omega
      · obtain rfl : k = rows.length := by omega
        have HALL : Hid (∀ t (h : t < rows.length), (rows[t].name == ND) = false) := fun t h => HD.out t h h
        have HBN := hidM (HBZW.out.trans (HBX.out.mono HBZW.out.size))
        have HOX : Hid (wr.ownsRow w.heap.size 68 3 (.slice (some ⟨g, 0, none⟩) rows.length cp) rows.length (flatR rows)) := HOZ.out.below HBX.out
        by_cases hfull : rows.length = 2000
        · have HF := hidM (HERX.out hfull HALL.out)
          have gf : (2000 : Int) < ((rows.length + 1 : Nat) : Int) := by omega
          clear HERX HGOX HALL HRV HEQ HER4 HPUSH hfull HD hlt
          generalize flatR rows = FRR at *
          clear HO HOZ HNN
          go_wp2_with fail
          go_region_law (refine step_append_own rfl _ _ 32 rfl w.heap.size 68 i0 (.agg #[.string .empty, .string .empty, .string .empty]) 3 48 Tryz.underlying32 hi hz0 hz1 hz2 rfl (by decide) (.slice (some ⟨g, 0, none⟩) rows.length cp) rows.length FRR rfl (by exact (HOX.out.alloc _).drew) ⟨wr.heap.size, 0, none⟩ 1 1 [.string NB, .string IB, .string ⟨#[]⟩] (by rfl) rfl (by exact cell_new_list wr [.string NB, .string IB, .string ⟨#[]⟩] 68) (by intro u hu; simp only [List.mem_cons, List.not_mem_nil, or_false] at hu; rcases hu with rfl | rfl | rfl <;> rfl) (by unfold maxLen; omega) (by omega) (by have := HBN.out.size; show w.heap.size ≤ (wr.alloc _).heap.size; simp; omega) ?_; intro v' w9 hown' hgrow; obtain ⟨g9, c9, rfl⟩ := own_some hown'; have HB9 : Hid (Below w.heap.size w w9) := ((HBN.out.alloc HBN.out.size _).drew).grown hgrow (by have := HBN.out.size; show w.heap.size ≤ (wr.alloc _).heap.size; simp; omega) (fun j hj => (World.ownsRow.lt HOX.out j hj).1); skip; clear hown' hgrow)
          all_goals
            go_wp2_with fail

            go_ret2
            refine ⟨.inl ⟨by rw [HF.out]; simp, by rw [HF.out]; rfl⟩, HB9.out⟩
        · obtain ⟨HG9, HOK9⟩ := HGOX.out hfull HALL.out
          have HG9 := hidM HG9
          have HOK9 := hidM HOK9
          have gf : ¬ (2000 : Int) < ((rows.length + 1 : Nat) : Int) := by omega
          clear HERX HGOX HALL HRV HEQ HER4 hfull HD hlt
          generalize flatR rows = FRR at *
          clear HO HOZ HNN
          go_wp2_with fail
          go_region_law (refine step_append_own rfl _ _ 32 rfl w.heap.size 68 i0 (.agg #[.string .empty, .string .empty, .string .empty]) 3 48 Tryz.underlying32 hi hz0 hz1 hz2 rfl (by decide) (.slice (some ⟨g, 0, none⟩) rows.length cp) rows.length FRR rfl (by exact (HOX.out.alloc _).drew) ⟨wr.heap.size, 0, none⟩ 1 1 [.string NB, .string IB, .string ⟨#[]⟩] (by rfl) rfl (by exact cell_new_list wr [.string NB, .string IB, .string ⟨#[]⟩] 68) (by intro u hu; simp only [List.mem_cons, List.not_mem_nil, or_false] at hu; rcases hu with rfl | rfl | rfl <;> rfl) (by unfold maxLen; omega) (by omega) (by have := HBN.out.size; show w.heap.size ≤ (wr.alloc _).heap.size; simp; omega) ?_; intro v' w9 hown' hgrow; obtain ⟨g9, c9, rfl⟩ := own_some hown'; have HB9 : Hid (Below w.heap.size w w9) := ((HBN.out.alloc HBN.out.size _).drew).grown hgrow (by have := HBN.out.size; show w.heap.size ≤ (wr.alloc _).heap.size; simp; omega) (fun j hj => (World.ownsRow.lt HOX.out j hj).1); have HO9 := hidM (HPUSH.out w9 _ hown'); clear hown' hgrow)
          all_goals
            go_wp2_with fail

            go_roundw
            case rel => exact ⟨ZB, _, rfl, HZ1.out, HOK9.out, HO9.out, HO9.out.nonnil (by simp), HG9.out, HB9.out⟩
            case measure => exact HZ2.out
end Go.Proofs.YtjoomlpocpdonaaGreatDoor
