/-
  The map of packed references, and the parser's box.
  Cut at a byte; what a file says; looking up.
  Lookup and Peeled, as the program has them.
-/
import Derived.Test.YtjoomlpocpdonaaGreatDoorJRfB
namespace Go.Proofs.YtjoomlpocpdonaaGreatDoor
open Go.RowKit

theorem mkB_list (l : List UInt8) : (mkB l).data.toList = l := by simp [mkB]
theorem mkB_of (s : ByteArray) : mkB s.data.toList = s := ba_eq (mkB_list _)
theorem mkB_size (l : List UInt8) : (mkB l).size = l.length := by rw [← sl_len, mkB_list]
theorem mkB_toList (l : List UInt8) : (mkB l).toList = l := by rw [ByteArray.toList_eq, mkB_list]
def tgtElem : Value → Option (DataW Unit × List MemPlace)
  | .agg xs => match xs.toList with
    | [.string a, .string b] => some (encR a.data.toList b.data.toList, [])
    | _ => none
  | _ => none
theorem tgt_mk (a b : ByteArray) : tgtElem (.agg #[.string a, .string b]) = some (encR a.data.toList b.data.toList, []) := rfl
theorem tgt_inv {v : Value} {z : DataW Unit × List MemPlace} (h : tgtElem v = some z) : ∃ a b, v = .agg #[.string a, .string b] ∧ z = (encR a.data.toList b.data.toList, []) := by
  unfold tgtElem at h
  split at h
  · rename_i xs
    split at h
    · rename_i a b hx
      refine ⟨a, b, ?_, (Option.some.inj h).symm⟩
      congr 1
      exact Array.toList_inj.1 hx
    · cases h
  · cases h
theorem encR_inj {a b c d : List UInt8} (h : encR a b = encR c d) : a = c ∧ b = d := by
  unfold encR at h
  simp at h
  exact h
theorem key9 : Maps.Keyed Tryz.prog 9 := Maps.string_keyed Tryz.underlying9
theorem keyOf9 (s : ByteArray) (hs : s.size ≤ maxLen) : keyOf Tryz.prog 9 (.string s) = some (.string s.data.toList) := by
  simp [keyOf, Tryz.underlying9, mapKey, hs]
theorem zero76 (w : World) : (zeroValue 76).run Tryz.prog w = .ok (.agg #[.string .empty, .string .empty]) w := by
  exact Tryz.zeroValue76 w
theorem field76_0 (A B : ByteArray) (w : World) : (Instr.field 76 (.agg #[.string A, .string B]) 0).run Tryz.prog w = .ok (.string A) w := by kernel_rfl
theorem field76_1 (A B : ByteArray) (w : World) : (Instr.field 76 (.agg #[.string A, .string B]) 1).run Tryz.prog w = .ok (.string B) w := by kernel_rfl
theorem owns_tight {w : World} {b n : Nat} {D : DataW Unit} (h : w.ownsMap Tryz.prog 9 tgtElem b n D) : w.ownsMap Tryz.prog 9 tgtElem b (Maps.size D) D := by
  obtain ⟨es, clock, hb, F, hs, rfl⟩ := h
  exact ⟨es, clock, hb, F, by rw [show Maps.size (DataW.map ((es.toList.map (WideElems.rg Tryz.prog 9 tgtElem)).foldr DataW.insert [])) = es.size by simp [Maps.size, length_sorted]]; exact Nat.le_refl _, rfl⟩
def PackAt (w : World) (b : Nat) (rows : List RowR) : Prop := ∃ D, w.ownsMap Tryz.prog 9 tgtElem b rows.length D ∧ MapOf D rows
theorem PackAt.lt {w : World} {b : Nat} {rows : List RowR} (h : PackAt w b rows) : b < w.heap.size := h.choose_spec.1.lt
theorem PackAt.keep {w w' : World} {b B : Nat} {rows : List RowR} (h : PackAt w b rows) (hb : Below B w w') (hB : b < B) : PackAt w' b rows := by
  obtain ⟨D, ⟨es, clock, h1, F, hs, hD⟩, hm⟩ := h
  exact ⟨D, ⟨es, clock, (hb.block b hB).trans h1, F, hs, hD⟩, hm⟩
def tgtV (rows : List RowR) (k : List UInt8) : Value := match rows.find? (fun r => r.name == k) with
  | some r => .agg #[.string (mkB r.id), .string (mkB r.peeled)]
  | none => .agg #[.string .empty, .string .empty]
theorem tgtV_of {D : DataW Unit} {rows : List RowR} (hm : MapOf D rows) (k : List UInt8) {v : Value} {ps : List MemPlace} (hv : tgtElem v = some (D.atKey (.string k) (encR [] []), ps)) : v = tgtV rows k := by
  obtain ⟨a, b, rfl, hz⟩ := tgt_inv hv
  have hz := congrArg Prod.fst hz
  simp only at hz
  unfold tgtV
  cases hf : rows.find? (fun r => r.name == k) with
  | some r =>
    obtain ⟨h1, h2⟩ := find_name hf
    have := hm.look r h1 (encR [] [])
    rw [h2] at this
    rw [this] at hz
    obtain ⟨e1, e2⟩ := encR_inj hz
    show _ = Value.agg #[.string (mkB r.id), .string (mkB r.peeled)]
    rw [e1, e2, mkB_of, mkB_of]
  | none =>
    have : rows.any (fun r => r.name == k) = false := by rw [find_any, hf]; rfl
    rw [hm.miss this] at hz
    obtain ⟨e1, e2⟩ := encR_inj hz
    rw [show a = .empty from ba_eq e1.symm, show b = .empty from ba_eq e2.symm]
theorem PackAt.look {w : World} {b : Nat} {rows : List RowR} (h : PackAt w b rows) (k : ByteArray) (hk : k.size ≤ maxLen) :
    (Instr.lookup 58 (.map (some b)) (.string k) true).run Tryz.prog w = .ok (.tuple #[tgtV rows k.data.toList, .bool (rows.any fun r => r.name == k.data.toList)]) w := by
  obtain ⟨D, ho, hm⟩ := h
  obtain ⟨v, ps, hrun, hv⟩ := ho.look_ok key9 Tryz.underlying58 (zero76 w) (tgt_mk .empty .empty) (keyOf9 k hk)
  rw [hrun, hm.has, tgtV_of hm _ hv]
theorem PackAt.look1 {w : World} {b : Nat} {rows : List RowR} (h : PackAt w b rows) (k : ByteArray) (hk : k.size ≤ maxLen) :
    (Instr.lookup 58 (.map (some b)) (.string k) false).run Tryz.prog w = .ok (tgtV rows k.data.toList) w := by
  obtain ⟨D, ho, hm⟩ := h
  obtain ⟨v, ps, hrun, hv⟩ := ho.lookup key9 Tryz.underlying58 (zero76 w) (tgt_mk .empty .empty) (keyOf9 k hk)
  rw [hrun, tgtV_of hm _ hv]
theorem PackAt.len {w : World} {b : Nat} {rows : List RowR} (h : PackAt w b rows) (ty : TypeId) : (Builtin.len_ #[58] ty #[.map (some b)]).run Tryz.prog w = .ok (.int .i64 (rows.length : Nat)) w := by
  obtain ⟨D, ho, hm⟩ := h
  rw [ho.len Tryz.underlying58, hm.size]
theorem PackAt.push {w : World} {b : Nat} {rows : List RowR} (h : PackAt w b rows) (k i : ByteArray) (hk : k.size ≤ maxLen) (hr : rows.length ≤ 2000) (hn : rows.any (fun r => r.name == k.data.toList) = false) :
    ∃ w', (Instr.mapUpdate 58 (.map (some b)) (.string k) (.agg #[.string i, .string .empty])).run Tryz.prog w = .ok () w' ∧ PackAt w' b (rows ++ [⟨k.data.toList, i.data.toList, []⟩]) ∧ w.grownBy w' (some b) := by
  obtain ⟨D, ho, hm⟩ := h
  obtain ⟨w', hrun, h1, h2⟩ := ho.update key9 Tryz.underlying58 (by simp [maxLen]; omega) (keyOf9 k hk) (tgt_mk i .empty)
  exact ⟨w', hrun, ⟨_, by simpa using h1, hm.push _ _ hn⟩, h2⟩
theorem PackAt.peel {w : World} {b : Nat} {rows : List RowR} {r : RowR} (h : PackAt w b (rows ++ [r])) (p : ByteArray) (hk : r.name.length ≤ 200) (hr : rows.length ≤ 2000) (hn : ∀ x ∈ rows, x.name ≠ r.name) :
    ∃ w', (Instr.mapUpdate 58 (.map (some b)) (.string (mkB r.name)) (.agg #[.string (mkB r.id), .string p])).run Tryz.prog w = .ok () w' ∧ PackAt w' b (rows ++ [⟨r.name, r.id, p.data.toList⟩]) ∧ w.grownBy w' (some b) := by
  obtain ⟨D, ho, hm⟩ := h
  obtain ⟨w', hrun, h1, h2⟩ := ho.update key9 Tryz.underlying58 (by simp [maxLen]; omega) (keyOf9 (mkB r.name) (by rw [mkB_size]; unfold maxLen; omega)) (tgt_mk (mkB r.id) p)
  rw [mkB_list, mkB_list] at h1
  have hm2 := hm.peel hn p.data.toList
  have h3 := owns_tight h1
  rw [hm2.size] at h3
  exact ⟨w', hrun, ⟨_, h3, hm2⟩, h2⟩
structure PBox (w : World) (q b : Nat) (rows : List RowR) : Prop where
  c0 : w.cell? ⟨q, 0, none⟩ = some (.map (some b))
  c1 : w.cell? ⟨q, 1, none⟩ = some (.string (mkB (lastR rows)))
  f1 : w.frozen? ⟨q, 1, none⟩ = false
  qlt : q < w.heap.size
  ne : q ≠ b
  map : PackAt w b rows
  ok : RowsOk rows
theorem PBox.keep {w w' : World} {q b B : Nat} {rows : List RowR} (h : PBox w q b rows) (hb : Below B w w') (h1 : q < B) (h2 : b < B) : PBox w' q b rows :=
  ⟨(hb.cell (p := ⟨q, 0, none⟩) h1).trans h.c0, (hb.cell (p := ⟨q, 1, none⟩) h1).trans h.c1, (hb.frozen (p := ⟨q, 1, none⟩) h1).trans h.f1, Nat.lt_of_lt_of_le h.qlt hb.size, h.ne, h.map.keep hb h2, h.ok⟩
theorem PBox.below {w w' : World} {q b : Nat} {rows : List RowR} (h : PBox w q b rows) (hb : Below w.heap.size w w') : PBox w' q b rows := h.keep hb h.qlt h.map.lt
def PStep (q b : Nat) (w w' : World) (e : Ending) (r : Nat × List RowR) : Prop := e = .returned (.int .i64 (r.1 : Nat)) ∧ PBox w' q b r.2 ∧ ∀ B, B ≤ q → B ≤ b → Below B w w'
end Go.Proofs.YtjoomlpocpdonaaGreatDoor
namespace Go.Proofs.YtjoomlpocpdonaaGreatDoor
open Go.RowKit

theorem cut_at (s : ByteArray) (c : UInt8) (m : Int) (w : World) (hs : s.size < 4294967281) (hg : GOk m w) :
    Calls Tryz.prog 58 #[.string s, .string ⟨#[c]⟩] w fun e w' => e = .returned (.tuple #[.string (mkB (s.data.toList.takeWhile (· != c))), .string (mkB ((s.data.toList.dropWhile (· != c)).drop 1)), .bool (s.data.toList.contains c)]) ∧ ∃ n, w' = w.drewN n := by
  have h := Tryz.strings_Cut s ⟨#[c]⟩ m w hs hg.cell
  rw [show (⟨#[c]⟩ : ByteArray).data.toList = [c] from rfl, cut_one] at h
  exact h
def getL (gs : List FileB) (n : List UInt8) : Option (List UInt8) := (gs.find? fun f => f.1.data.toList == n).map fun f => f.2.data.toList
theorem getL_some {gs : List FileB} (ha : Apart gs) {f : FileB} (hf : f ∈ gs) : getL gs f.1.data.toList = some f.2.data.toList := by
  unfold getL
  cases h : gs.find? (fun g => g.1.data.toList == f.1.data.toList) with
  | none =>
    have := List.find?_eq_none.1 h f hf
    simp at this
  | some g =>
    have h1 := List.mem_of_find?_eq_some h
    have h2 := List.find?_some h
    have h2 : g.1 = f.1 := ba_eq (by simpa using h2)
    have : g = f := by
      obtain ⟨i, hi, rfl⟩ := List.mem_iff_getElem.1 h1
      obtain ⟨j, hj, rfl⟩ := List.mem_iff_getElem.1 hf
      have hp := List.pairwise_iff_getElem.1 ha
      rcases Nat.lt_trichotomy i j with hij | hij | hij
      · exact absurd h2 (hp i j hi hj hij)
      · subst hij; rfl
      · exact absurd h2.symm (hp j i hj hi hij)
    rw [this]; rfl
theorem getL_none {gs : List FileB} {n : List UInt8} (h : ∀ f ∈ gs, f.1.data.toList ≠ n) : getL gs n = none := by
  unfold getL
  rw [List.find?_eq_none.2 (fun f hf => by simpa using h f hf)]; rfl
theorem getL_mem {gs : List FileB} {n d : List UInt8} (h : getL gs n = some d) : ∃ f ∈ gs, f.1.data.toList = n ∧ f.2.data.toList = d := by
  unfold getL at h
  cases hf : gs.find? (fun f => f.1.data.toList == n) with
  | none => rw [hf] at h; cases h
  | some f =>
    rw [hf] at h
    exact ⟨f, List.mem_of_find?_eq_some hf, by simpa using List.find?_some hf, Option.some.inj h⟩
theorem getL_perm {gs fs : List FileB} (hp : gs.Perm fs) (ha : Apart gs) (hb : Apart fs) (n : List UInt8) : getL gs n = getL fs n := by
  cases h : getL gs n with
  | some d =>
    obtain ⟨f, hf, rfl, rfl⟩ := getL_mem h
    rw [getL_some hb (hp.mem_iff.1 hf)]
  | none =>
    refine (getL_none fun f hf e => ?_).symm
    have := getL_some ha (hp.mem_iff.2 hf)
    rw [e, h] at this; cases this
theorem get_cases {gs : List FileB} {p : ByteArray} {e : Ending} (ha : Apart gs) (h : GetPost gs p e) :
    (∃ f ∈ gs, getL gs p.data.toList = some f.2.data.toList ∧ e = .returned (.tuple #[.string f.2, .int .i64 0])) ∨ (getL gs p.data.toList = none ∧ e = .returned (.tuple #[.string .empty, .int .i64 7])) := by
  rcases h with ⟨f, hf, rfl, he⟩ | ⟨hn, he⟩
  · exact .inl ⟨f, hf, getL_some ha hf, he⟩
  · exact .inr ⟨getL_none fun f hf h => hn f hf (ba_eq h), he⟩
theorem trim_suffix_no {l m : List UInt8} (h : Lib.hasSuffix l m = false) : Lib.trimSuffix l m = l := by unfold Lib.trimSuffix; rw [if_neg (by rw [h]; decide)]
theorem trim_suffix_one {l : List UInt8} {c : UInt8} (h : Lib.hasSuffix l [c] = true) : Lib.trimSuffix l [c] = l.dropLast := by
  unfold Lib.trimSuffix
  rw [if_pos h, List.dropLast_eq_take]; rfl
def readR (r : Nat × List UInt8 × List UInt8) : Ending := .returned (.tuple #[.string (mkB r.2.1), .string (mkB r.2.2), .int .i64 (r.1 : Nat)])
set_option maxHeartbeats 1600000 in
theorem read_any (d : ByteArray) (m : Int) (w : World) (hd : d.size ≤ 4194304) (hg : GOk m w) :
    Calls Tryz.prog 49 #[.string d] w fun e w' => e = readR (readL d.data.toList) ∧ Below w.heap.size w w' := by
  have HG := hidM hg
  clear hg
  have HS := hidM (Tryz.strings_CutSuffix d ⟨#[10]⟩ w (by omega))
  rw [show (⟨#[10]⟩ : ByteArray).data.toList = [10] from rfl] at HS
  have HRD : Hid (readL d.data.toList = if Lib.hasSuffix d.data.toList [10] = false then (3, [], []) else if idB d.data.toList.dropLast = true then (0, d.data.toList.dropLast, []) else if Lib.hasPrefix d.data.toList.dropLast leadL = true ∧ nameL (d.data.toList.dropLast.drop 5) = true then (0, [], d.data.toList.dropLast.drop 5) else (3, [], [])) := rfl
  cases hsf : Lib.hasSuffix d.data.toList [10] with
  | false =>
    rw [trim_suffix_no hsf, hsf] at HS
    have HR : Hid (readL d.data.toList = (3, [], [])) := by unfold Hid; rw [HRD.out, if_pos hsf]
    have HP := hidM (fun X => Tryz.strings_CutPrefix X ⟨#[114, 101, 102, 58, 32]⟩ w)
    clear HRD hsf
    generalize (⟨d.data.toList.toArray⟩ : ByteArray) = X at *
    have HP2 := hidM (HP.out X)
    clear HP
    generalize (⟨(Lib.trimPrefix X.data.toList (⟨#[114, 101, 102, 58, 32]⟩ : ByteArray).data.toList).toArray⟩ : ByteArray) = Y at *
    generalize Lib.hasPrefix X.data.toList (⟨#[114, 101, 102, 58, 32]⟩ : ByteArray).data.toList = q at *
    go_enter Tryz.func49, Tryz.ntmps49
    go_wp2_with fail
    refine HS.out.mono ?_
    rintro _ w1 ⟨rfl, rfl⟩
    go_wp2_with fail
    refine HP2.out.mono ?_
    rintro _ w2 ⟨rfl, rfl⟩
    go_wp2_with fail
    go_ret3
    exact ⟨by rw [HR.out]; rfl, Below.refl _ _⟩
  | true =>
    rw [trim_suffix_one hsf, hsf] at HS
    have HR : Hid (readL d.data.toList = if idB d.data.toList.dropLast = true then (0, d.data.toList.dropLast, []) else if Lib.hasPrefix d.data.toList.dropLast leadL = true ∧ nameL (d.data.toList.dropLast.drop 5) = true then (0, [], d.data.toList.dropLast.drop 5) else (3, [], [])) := by
      unfold Hid; rw [HRD.out, if_neg (by rw [hsf]; decide)]
    have hsz : d.data.toList.dropLast.length ≤ 4194304 := by rw [List.length_dropLast, sl_len]; omega
    clear HRD hsf
    generalize readL d.data.toList = R at *
    generalize d.data.toList.dropLast = L at *
    rw [show (⟨L.toArray⟩ : ByteArray) = mkB L from rfl] at HS
    have HP := hidM (Tryz.strings_CutPrefix (mkB L) ⟨#[114, 101, 102, 58, 32]⟩ w)
    rw [mkB_list, show (⟨#[114, 101, 102, 58, 32]⟩ : ByteArray).data.toList = leadL from rfl] at HP
    have HI := hidM (id_any (mkB L) w (by rw [mkB_size]; unfold maxLen; omega))
    rw [mkB_list] at HI
    cases hi : idB L with
    | true =>
      rw [hi] at HI
      have HR2 : Hid (R = (0, L, [])) := by unfold Hid; rw [HR.out, if_pos hi]
      clear HR hi
      generalize (⟨(Lib.trimPrefix L leadL).toArray⟩ : ByteArray) = Y at *
      generalize Lib.hasPrefix L leadL = q at *
      go_enter Tryz.func49, Tryz.ntmps49
      go_wp2_with fail
      refine HS.out.mono ?_
      rintro _ w1 ⟨rfl, rfl⟩
      go_wp2_with fail
      refine HP.out.mono ?_
      rintro _ w2 ⟨rfl, rfl⟩
      go_wp2_with fail
      refine HI.out.mono ?_
      rintro _ w3 ⟨rfl, rfl⟩
      go_wp2_with fail
      go_ret3
      exact ⟨by rw [HR2.out]; rfl, Below.refl _ _⟩
    | false =>
      rw [hi] at HI
      have HR2 : Hid (R = if Lib.hasPrefix L leadL = true ∧ nameL (L.drop 5) = true then (0, [], L.drop 5) else (3, [], [])) := by unfold Hid; rw [HR.out, if_neg (by rw [hi]; decide)]
      clear HR hi
      cases hp : Lib.hasPrefix L leadL with
      | false =>
        rw [hp] at HP HR2
        have HR3 : Hid (R = (3, [], [])) := by unfold Hid; rw [HR2.out, if_neg (by simp)]
        clear HR2 hp
        generalize (⟨(Lib.trimPrefix L leadL).toArray⟩ : ByteArray) = Y at *
        go_enter Tryz.func49, Tryz.ntmps49
        go_wp2_with fail
        refine HS.out.mono ?_
        rintro _ w1 ⟨rfl, rfl⟩
        go_wp2_with fail
        refine HP.out.mono ?_
        rintro _ w2 ⟨rfl, rfl⟩
        go_wp2_with fail
        refine HI.out.mono ?_
        rintro _ w3 ⟨rfl, rfl⟩
        go_wp2_with fail
        go_ret3
        exact ⟨by rw [HR3.out]; rfl, Below.refl _ _⟩
      | true =>
        rw [hp] at HP HR2
        rw [show (⟨(Lib.trimPrefix L leadL).toArray⟩ : ByteArray) = mkB (L.drop 5) by unfold Lib.trimPrefix; rw [if_pos hp]; rfl] at HP
        have HN := hidM (name_any (mkB (L.drop 5)) m w HG.out)
        rw [mkB_list] at HN
        clear hp
        cases hn : nameL (L.drop 5) with
        | false =>
          rw [hn] at HN HR2
          have HR3 : Hid (R = (3, [], [])) := by unfold Hid; rw [HR2.out, if_neg (by simp)]
          clear HR2 hn
          generalize mkB (L.drop 5) = Y at *
          go_enter Tryz.func49, Tryz.ntmps49
          go_wp2_with fail
          refine HS.out.mono ?_
          rintro _ w1 ⟨rfl, rfl⟩
          go_wp2_with fail
          refine HP.out.mono ?_
          rintro _ w2 ⟨rfl, rfl⟩
          go_wp2_with fail
          refine HI.out.mono ?_
          rintro _ w3 ⟨rfl, rfl⟩
          go_wp2_with fail
          refine HN.out.mono ?_
          rintro _ w4 ⟨rfl, hb4⟩
          go_wp2_with fail
          go_ret3
          exact ⟨by rw [HR3.out]; rfl, hb4⟩
        | true =>
          rw [hn] at HN HR2
          have HR3 : Hid (R = (0, [], L.drop 5)) := by unfold Hid; rw [HR2.out, if_pos (by simp)]
          clear HR2 hn
          have HR4 : Hid (readR R = .returned (.tuple #[.string .empty, .string (mkB (L.drop 5)), .int .i64 0])) := by unfold Hid; rw [HR3.out]; rfl
          clear HR3
          generalize mkB (L.drop 5) = Y at *
          go_enter Tryz.func49, Tryz.ntmps49
          go_wp2_with fail
          refine HS.out.mono ?_
          rintro _ w1 ⟨rfl, rfl⟩
          go_wp2_with fail
          refine HP.out.mono ?_
          rintro _ w2 ⟨rfl, rfl⟩
          go_wp2_with fail
          refine HI.out.mono ?_
          rintro _ w3 ⟨rfl, rfl⟩
          go_wp2_with fail
          refine HN.out.mono ?_
          rintro _ w4 ⟨rfl, hb4⟩
          go_wp2_with fail
          go_ret3
          exact ⟨by rw [HR4.out]; rfl, hb4⟩
structure RefsAt (w : World) (r b off c mb : Nat) (gs : List FileB) (rows : List RowR) : Prop where
  fol : Folder w r b off c gs
  c1 : w.cell? ⟨r, 1, none⟩ = some (.map (some mb))
  map : PackAt w mb rows
  rise : RiseS gs
  ok : RowsOk rows
  len : gs.length ≤ 2000
  sized : ∀ f ∈ gs, f.2.size ≤ 4194304
theorem RefsAt.below {w w' : World} {r b off c mb : Nat} {gs : List FileB} {rows : List RowR} (h : RefsAt w r b off c mb gs rows) (hb : Below w.heap.size w w') : RefsAt w' r b off c mb gs rows :=
  ⟨h.fol.below hb, (hb.cell (p := ⟨r, 1, none⟩) h.fol.qlt).trans h.c1, h.map.keep hb h.map.lt, h.rise, h.ok, h.len, h.sized⟩
def pairR (r : Nat × List UInt8) : Ending := .returned (.tuple #[.string (mkB r.2), .int .i64 (r.1 : Nat)])
set_option maxHeartbeats 1600000 in
theorem unpack_any (r b off c mb : Nat) (gs : List FileB) (rows : List RowR) (n : ByteArray) (w : World) (hn : n.size ≤ 200) (h : RefsAt w r b off c mb gs rows) :
    Calls Tryz.prog 48 #[.pointer (some ⟨r, 0, none⟩), .string n] w fun e w' => e = pairR (unpR rows n.data.toList) ∧ Below w.heap.size w w' := by
  have c1 := h.c1
  have hl := h.map.look n (by unfold maxLen; omega)
  rw [find_any] at hl
  unfold tgtV at hl
  unfold unpR
  clear h
  generalize rows.find? (fun r => r.name == n.data.toList) = o at *
  cases o with
  | none =>
    replace hl : (Instr.lookup 58 (.map (some mb)) (.string n) true).run Tryz.prog w = .ok (.tuple #[.agg #[.string .empty, .string .empty], .bool false]) w := hl
    go_enter Tryz.func48, Tryz.ntmps48
    go_wp2_with fail
    go_ret2
    exact ⟨rfl, (Below.refl _ _).alloc (Nat.le_refl _) _⟩
  | some x =>
    replace hl : (Instr.lookup 58 (.map (some mb)) (.string n) true).run Tryz.prog w = .ok (.tuple #[.agg #[.string (mkB x.id), .string (mkB x.peeled)], .bool true]) w := hl
    have HR : Hid (pairR (0, x.id) = .returned (.tuple #[.string (mkB x.id), .int .i64 0])) := rfl
    show Calls Tryz.prog 48 #[.pointer (some ⟨r, 0, none⟩), .string n] w fun e w' => e = pairR (0, x.id) ∧ Below w.heap.size w w'
    generalize pairR (0, x.id) = RR at *
    generalize mkB x.id = X at *
    generalize mkB x.peeled = Y at *
    go_enter Tryz.func48, Tryz.ntmps48
    go_wp2_with fail
    go_ret2
    exact ⟨by rw [HR.out]; rfl, (Below.refl _ _).alloc (Nat.le_refl _) _⟩
end Go.Proofs.YtjoomlpocpdonaaGreatDoor
namespace Go.Proofs.YtjoomlpocpdonaaGreatDoor
open Go.RowKit

theorem goL_none {g : List UInt8 → Option (List UInt8)} {rows : List RowR} {k : Nat} {n : List UInt8} (h : g n = none) : goL g rows (k + 1) n = unpR rows n := by
  unfold goL; rw [h]
theorem goL_some {g : List UInt8 → Option (List UInt8)} {rows : List RowR} {k : Nat} {n d : List UInt8} (h : g n = some d) :
    goL g rows (k + 1) n = if (readL d).1 = 0 ∧ (readL d).2.2 ≠ [] then goL g rows k (readL d).2.2 else ((readL d).1, (readL d).2.1) := by
  rw [goL]; rw [h]
theorem pair_out (r : Nat × List UInt8) : pairR r = .returned (.tuple #[.string (mkB r.2), .int .i64 (r.1 : Nat)]) := rfl
set_option maxHeartbeats 3200000 in
theorem lookup_any (r b off c mb : Nat) (gs : List FileB) (rows : List RowR) (n : ByteArray) (m : Int) (w : World) (h : RefsAt w r b off c mb gs rows) (hg : GOk m w) :
    Calls Tryz.prog 16 #[.pointer (some ⟨r, 0, none⟩), .string n] w fun e w' => e = pairR (lookL (getL gs) rows n.data.toList) ∧ Below w.heap.size w w' := by
  have HR := hidM h
  have HG := hidM hg
  have HN := hidM (name_any n m w hg)
  clear h hg
  unfold lookL
  cases hn : nameL n.data.toList with
  | false =>
    rw [hn] at HN
    show Calls Tryz.prog 16 #[.pointer (some ⟨r, 0, none⟩), .string n] w fun e w' => e = pairR (4, []) ∧ Below w.heap.size w w'
    go_enter Tryz.func16, Tryz.ntmps16
    go_wp2_with fail
    refine HN.out.mono ?_
    rintro _ w1 ⟨rfl, hb1⟩
    go_wp2_with fail
    go_ret2
    exact ⟨rfl, hb1⟩
  | true =>
    rw [hn] at HN
    show Calls Tryz.prog 16 #[.pointer (some ⟨r, 0, none⟩), .string n] w fun e w' => e = pairR (goL (getL gs) rows 6 n.data.toList) ∧ Below w.heap.size w w'
    obtain ⟨ANS, hans⟩ : ∃ ANS, goL (getL gs) rows 6 n.data.toList = ANS := ⟨_, rfl⟩
    rw [hans]
    have HA := hidM hans
    have HNM := hidM hn
    clear hans hn
    go_enter Tryz.func16, Tryz.ntmps16
    go_wp2_with fail
    refine HN.out.mono ?_
    rintro _ w1 ⟨rfl, hb1⟩
    have HB1 := hidM hb1
    clear HN hb1
    go_wp2_with fail
    go_loopw [1, 13] (fun nv i wr => ∃ (k : Nat) (S : ByteArray), k ≤ 6 ∧ i = .int .i64 k ∧ nv = .string S ∧ (nameL S.data.toList = true ∧ goL (getL gs) rows (6 - k) S.data.toList = ANS) ∧ Below w.heap.size w wr) (fun _ i _ => 6 - (intOf i).toNat)
    case atStart => exact ⟨0, n, Nat.zero_le _, rfl, rfl, ⟨HNM.out, HA.out⟩, HB1.out⟩
    case round =>
      obtain ⟨k, S, hk, rfl, rfl, ⟨hs1, hs2⟩, hbr⟩ := hrel
      have HB := hidM hbr
      have HRR := hidM (HR.out.below hbr)
      have HGG := hidM (HG.out.below hbr)
      have hsz : S.size ≤ 200 := by rw [← sl_len]; exact name_size hs1
      have HS2 := hidM hs2
      clear hs1 hs2 hbr HA HNM HB1
      by_cases hlt : k < 6
      · obtain ⟨j, hj⟩ : ∃ j, 6 - k = j + 1 := ⟨5 - k, by omega⟩
        rw [hj] at HS2
        have hj2 : Hid (6 - (k + 1) = j) := by unfold Hid; omega
        have kk : (k : Int) < 6 := by omega
        go_wp2_with fail
        refine (Get_any r b off c gs S _ HRR.out.fol (by have := HRR.out.len; omega) HRR.out.rise.rise).mono ?_
        rintro _ w2 ⟨hp, hb2⟩
        have HB2 := hidM (HB.out.trans (hb2.mono HB.out.size))
        have HR2 := hidM (HRR.out.below hb2)
        have HG2 := hidM (HGG.out.below hb2)
        have HAP := hidM HRR.out.rise.apart
        clear hb2 HRR HGG HB hj
        rcases get_cases HAP.out hp with ⟨f, hf, hget, rfl⟩ | ⟨hget, rfl⟩
        · have HRD := hidM (read_any f.2 m w2 (HR2.out.sized f hf) HG2.out)
          have HS3 : Hid ((if (readL f.2.data.toList).1 = 0 ∧ (readL f.2.data.toList).2.2 ≠ [] then goL (getL gs) rows j (readL f.2.data.toList).2.2 else ((readL f.2.data.toList).1, (readL f.2.data.toList).2.1)) = ANS) := by
            unfold Hid
            rw [← goL_some hget]; exact HS2.out
          have HER := hidM (fun h => read_err (d := f.2.data.toList) h)
          have HNX := hidM (fun h => read_next (d := f.2.data.toList) h)
          clear hp hf hget HS2
          generalize readL f.2.data.toList = R at *
          generalize f.2 = D at *
          by_cases h0 : R.1 = 0
          · by_cases hx : R.2.2 = []
            · have HF : Hid (ANS = (0, R.2.1)) := by
                unfold Hid
                rw [← HS3.out, if_neg (by rw [hx]; simp), h0]
              have HRV : Hid (readR R = .returned (.tuple #[.string (mkB R.2.1), .string .empty, .int .i64 0])) := by
                unfold Hid readR
                rw [hx, h0]; rfl
              have HF2 : Hid (pairR ANS = .returned (.tuple #[.string (mkB R.2.1), .int .i64 0])) := by unfold Hid; rw [HF.out]; rfl
              clear HS3 HER HNX h0 hx
              rw [HRV.out] at HRD
              clear HF HRV
              generalize mkB R.2.1 = X at *
              have e0 : ByteArray.empty.toList.isEmpty = true := by rw [ByteArray.toList_eq]; rfl
              go_wp2_with fail
              refine HRD.out.mono ?_
              rintro _ w3 ⟨rfl, hb3⟩
              have HB3 := hidM (HB2.out.trans (hb3.mono HB2.out.size))
              clear hb3
              go_wp2_with fail
              go_ret2
              exact ⟨by rw [HF2.out]; rfl, HB3.out⟩
            · have HF : Hid (goL (getL gs) rows j R.2.2 = ANS) := by
                unfold Hid
                rw [← HS3.out, if_pos ⟨h0, hx⟩]
              have HRV : Hid (readR R = .returned (.tuple #[.string (mkB R.2.1), .string (mkB R.2.2), .int .i64 0])) := by
                unfold Hid readR
                rw [h0]; rfl
              have e0 : ((mkB R.2.2).toList == ([] : List UInt8)) = false := by rw [mkB_toList]; exact beq_false_of_ne hx
              have e1 : (mkB R.2.2).toList.isEmpty = false := by rw [mkB_toList]; cases hq : R.2.2 with
                | nil => exact absurd hq hx
                | cons a l => rfl
              have HN2 := hidM (HNX.out hx).2
              rw [HRV.out] at HRD
              have HF2 : Hid (nameL (mkB R.2.2).data.toList = true ∧ goL (getL gs) rows j (mkB R.2.2).data.toList = ANS) := by
                unfold Hid; rw [mkB_list]; exact ⟨HN2.out, HF.out⟩
              clear HS3 HER HNX h0 hx HRV HF HN2
              generalize mkB R.2.1 = X at *
              generalize mkB R.2.2 = Y at *
              go_wp2_with fail
              refine HRD.out.mono ?_
              rintro _ w3 ⟨rfl, hb3⟩
              have HB3 := hidM (HB2.out.trans (hb3.mono HB2.out.size))
              clear hb3
              go_wp2_with fail
              go_roundw
              case rel => exact ⟨k + 1, Y, by omega, by go_num, rfl, by rw [hj2.out]; exact HF2.out, HB3.out⟩
              case measure => (show 6 - ((k : Int) + 1).toNat < 6 - ((k : Int)).toNat); omega
          · have hR := HER.out h0
            subst hR
            have HF : Hid (ANS = (3, [])) := by
              unfold Hid
              rw [← HS3.out]; rfl
            clear HS3 HER HNX h0
            have HRV : Hid (readR (3, [], []) = .returned (.tuple #[.string .empty, .string .empty, .int .i64 3])) := rfl
            rw [HRV.out] at HRD
            go_wp2_with fail
            refine HRD.out.mono ?_
            rintro _ w3 ⟨rfl, hb3⟩
            have HB3 := hidM (HB2.out.trans (hb3.mono HB2.out.size))
            clear hb3
            go_wp2_with fail
            go_ret2
            exact ⟨by rw [HF.out]; rfl, HB3.out⟩
        · have HU := hidM (unpack_any r b off c mb gs rows S w2 hsz HR2.out)
          have HF : Hid (unpR rows S.data.toList = ANS) := by
            unfold Hid
            rw [← goL_none hget]; exact HS2.out
          rw [HF.out, pair_out] at HU
          clear hp hget HS2 HF
          go_wp2_with fail
          refine HU.out.mono ?_
          rintro _ w3 ⟨rfl, hb3⟩
          have HB3 := hidM (HB2.out.trans (hb3.mono HB2.out.size))
          clear hb3
          go_wp2_with fail
          go_ret2
          exact ⟨rfl, HB3.out⟩
      · obtain rfl : k = 6 := by omega
        have HF : Hid (ANS = (9, [])) := by
          unfold Hid; rw [← HS2.out]; rfl
        go_wp2_with fail
        go_ret2
        exact ⟨by rw [HF.out]; rfl, HB.out⟩
set_option maxHeartbeats 1600000 in
theorem peeled_any (r b off c mb : Nat) (gs : List FileB) (rows : List RowR) (n : ByteArray) (w : World) (h : RefsAt w r b off c mb gs rows) (hnz : n.size ≤ 281474976710656) :
    Calls Tryz.prog 18 #[.pointer (some ⟨r, 0, none⟩), .string n] w fun e w' => e = .returned (.string (mkB (peeledL (getL gs) rows n.data.toList))) ∧ Below w.heap.size w w' := by
  have HR := hidM h
  have HG := hidM (Get_any r b off c gs n w h.fol (by have := h.len; omega) h.rise.rise)
  have HAP := hidM h.rise.apart
  clear h
  have HA : Hid (peeledL (getL gs) rows n.data.toList = match getL gs n.data.toList with
    | some _ => []
    | none => match rows.find? (fun r => r.name == n.data.toList) with
      | some r => r.peeled
      | none => []) := rfl
  generalize peeledL (getL gs) rows n.data.toList = ANS at *
  go_enter Tryz.func18, Tryz.ntmps18
  go_wp2_with fail
  refine HG.out.mono ?_
  rintro _ w1 ⟨hp, hb1⟩
  have HB1 := hidM hb1
  have HR1 := hidM (HR.out.below hb1)
  clear hb1 HG HR
  rcases get_cases HAP.out hp with ⟨f, hf, hget, rfl⟩ | ⟨hget, rfl⟩
  · have HA2 : Hid (ANS = []) := by unfold Hid; rw [HA.out, hget]
    clear hp hf hget HA
    generalize f.2 = D at *
    go_wp2_with fail
    go_ret
    exact ⟨by rw [HA2.out]; rfl, HB1.out⟩
  · have HA2 : Hid (ANS = match rows.find? (fun r => r.name == n.data.toList) with
      | some r => r.peeled
      | none => []) := by unfold Hid; rw [HA.out, hget]
    clear hp hget HA
    have c1 := HR1.out.c1
    have hl := HR1.out.map.look1 n (by unfold maxLen; omega)
    clear hnz
    unfold tgtV at hl
    generalize rows.find? (fun r => r.name == n.data.toList) = o at *
    cases o with
    | none =>
      replace hl : (Instr.lookup 58 (.map (some mb)) (.string n) false).run Tryz.prog w1 = .ok (.agg #[.string .empty, .string .empty]) w1 := hl
      have hfd := field76_1 .empty .empty w1
      have HA3 : Hid (ANS = []) := HA2.out
      clear HA2
      go_wp2_with fail
      go_ret
      exact ⟨by rw [HA3.out]; rfl, HB1.out⟩
    | some x =>
      replace hl : (Instr.lookup 58 (.map (some mb)) (.string n) false).run Tryz.prog w1 = .ok (.agg #[.string (mkB x.id), .string (mkB x.peeled)]) w1 := hl
      have HA3 : Hid (ANS = x.peeled) := HA2.out
      rw [← HA3.out] at hl
      clear HA2 HA3
      generalize mkB x.id = X at *
      obtain ⟨Y, hY⟩ : ∃ Y, mkB ANS = Y := ⟨_, rfl⟩
      have HY := hidM hY
      rw [hY] at hl
      clear hY
      have hfd := field76_1 X Y w1
      go_wp2_with fail
      go_ret
      exact ⟨by rw [HY.out]; rfl, HB1.out⟩
end Go.Proofs.YtjoomlpocpdonaaGreatDoor
