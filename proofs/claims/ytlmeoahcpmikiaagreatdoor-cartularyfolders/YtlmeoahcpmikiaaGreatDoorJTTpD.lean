/-
  Taken over from another program: TreJ.
  Taken over from another program: TpB.
  Taken over from another program: TpC.
  Taken over from another program: TrW.
  Taken over from another program: TpD.
-/
import Derived.Test.YtlmeoahcpmikiaaGreatDoorJTTpM
import Derived.Laws.AppendOwn
import Derived.Test.YtlmeoahcpmikiaaGreatDoorJTTrU
import Derived.Laws.StructEq
import Derived.Deep.RegionHeld3
import Derived.Deep.MidRow
import Derived.Lib.LazyBuf
namespace Go.Proofs.YtlmeoahcpmikiaaGreatDoor.T
open Go.RowKit Go.WideMaps Go.Maps
/-- the cells of entries -/
def flatE : List EntB → List Value
  | [] => []
  | e :: es => .int .i64 e.1 :: .string e.2.1 :: .string e.2.2 :: flatE es
theorem flatE_len (es : List EntB) : (flatE es).length = es.length * 3 := by
  induction es with
  | nil => rfl
  | cons e es ih => simp only [flatE, List.length_cons, ih]; omega
theorem flatE_one (es : List EntB) : ∀ u ∈ flatE es, u.oneCell' = true := by
  induction es with
  | nil => intro u hu; cases hu
  | cons e es ih =>
    intro u hu
    simp only [flatE, List.mem_cons] at hu
    rcases hu with rfl | rfl | rfl | hu
    · rfl
    · rfl
    · rfl
    · exact ih u hu
theorem flatE_at (es : List EntB) : ∀ i, i < es.length → (flatE es)[i * 3]? = some (.int .i64 (es.getD i noE).1) ∧ (flatE es)[i * 3 + 1]? = some (.string (es.getD i noE).2.1) ∧ (flatE es)[i * 3 + 2]? = some (.string (es.getD i noE).2.2) := by
  induction es with
  | nil => intro i hi; cases hi
  | cons e es ih =>
    intro i hi
    cases i with
    | zero => exact ⟨rfl, rfl, rfl⟩
    | succ i =>
      have h := ih i (by simpa using hi)
      rw [show (i + 1) * 3 = i * 3 + 1 + 1 + 1 by omega]
      simp only [flatE, List.getElem?_cons_succ, List.getD_cons_succ]
      exact h
theorem flatE_news {w : World} {b off : Nat} {es : List EntB} (h : EntsAt w b off es) : ∀ j u, (flatE es)[j]? = some u → w.cell? ⟨b, off + j, none⟩ = some u := by
  intro j u hj
  have hl : j < es.length * 3 := by rw [← flatE_len]; exact (List.getElem?_eq_some_iff.1 hj).1
  have hi : j / 3 < es.length := by omega
  obtain ⟨f0, f1, f2⟩ := flatE_at es (j / 3) hi
  obtain ⟨c0, c1, c2⟩ := h (j / 3) hi
  have hr : j = j / 3 * 3 ∨ j = j / 3 * 3 + 1 ∨ j = j / 3 * 3 + 2 := by omega
  rcases hr with e | e | e
  · rw [e] at hj
    rw [f0] at hj
    rw [e, c0, ← hj]
  · rw [e] at hj
    rw [f1] at hj
    rw [e, ← Nat.add_assoc, c1, ← hj]
  · rw [e] at hj
    rw [f2] at hj
    rw [e, ← Nat.add_assoc, c2, ← hj]
theorem EntsAt.take {w : World} {b off : Nat} {es : List EntB} (h : EntsAt w b off es) (n : Nat) : EntsAt w b off (es.take n) := fun i hi => by
  rw [List.length_take] at hi
  have h1 := h i (by omega)
  have h2 : (es.take n).getD i noE = es.getD i noE := by rw [List.getD_eq_getElem?_getD, List.getD_eq_getElem?_getD, List.getElem?_take, if_pos (by omega)]
  rw [h2]
  exact h1
/-- what Few answers -/
def FewE (w0 : World) (es : List EntB) (e : Ending) (w : World) : Prop := ∃ g cap, e = .returned (.slice (some ⟨g, 0, none⟩) es.length cap) ∧ w0.heap.size ≤ g ∧ es.length ≤ cap ∧ EntsIn w (some ⟨g, 0, none⟩) es
theorem few_ret {w w' : World} {es : List EntB} {v : Value} (hown : w'.ownsRow w.heap.size 47 3 v es.length (flatE es)) (hnn : v ≠ .slice none 0 0) : FewE w es (.returned v) w' := by
  rcases hown.2 with ⟨hnil, _⟩ | ⟨g, cap, cur, rfl, hbase, hbk, h1, h2, h3, h4⟩
  · exact absurd hnil hnn
  · refine ⟨g, cap, rfl, hbase, h1, .inr ⟨g, 0, rfl, (Array.getElem?_eq_some_iff.1 hbk).1, fun i hi => ?_⟩⟩
    obtain ⟨f0, f1, f2⟩ := flatE_at es i hi
    have hc : ∀ j u, (flatE es)[j]? = some u → w'.cell? ⟨g, 0 + j, none⟩ = some u := fun j u hj => by
      have := World.ownsRow.cells hown (g := g) rfl j u hj
      rw [Addr.add_lit] at this
      exact this
    exact ⟨hc _ _ f0, by rw [Nat.add_assoc]; exact hc _ _ f1, by rw [Nat.add_assoc]; exact hc _ _ f2⟩
theorem info29 : (Tryz.prog.info? 47).map (fun i => (i.zero, i.size, i.bytes)) = some (some (.agg #[.int .i64 0, .string .empty, .string .empty]), 3, 40) := by kernel_rfl
/-- the slice of entries that a value is -/
def EntsV (w : World) (v : Value) (es : List EntB) : Prop := (v = .slice none 0 0 ∧ es = []) ∨ (∃ a c, v = .slice (some a) 0 c ∧ es = []) ∨ ∃ b off c, v = .slice (some ⟨b, off, none⟩) es.length c ∧ b < w.heap.size ∧ EntsAt w b off es ∧ es.length ≤ c
set_option maxHeartbeats 1600000 in
set_option maxRecDepth 100000 in
theorem few_nil (w : World) : Calls Tryz.prog 5 #[.slice none 0 0] w fun e w' => FewE w [] e w' ∧ Below w.heap.size w w' := by
  go_enter Tryz.func5, Tryz.ntmps5
  go_wp2_with fail
  go_ret
  exact ⟨⟨w.heap.size, 0, rfl, Nat.le_refl _, Nat.zero_le _, .inl rfl⟩, (Below.refl _ _).alloc (Nat.le_refl _) _⟩
set_option maxHeartbeats 1600000 in
set_option maxRecDepth 100000 in
theorem few_at (b off c : Nat) (es : List EntB) (w : World) (hf : EntsAt w b off es) (hcap : es.length ≤ c) :
    Calls Tryz.prog 5 #[.slice (some ⟨b, off, none⟩) es.length c] w fun e w' => FewE w (es.take 600) e w' ∧ Below w.heap.size w w' := by
  obtain ⟨i0, hi, hz0, hz1, hz2⟩ := info_parts info29
  have hf' := hf.take 600
  have HNW := hidM (flatE_news hf')
  have HON := hidM (flatE_one (es.take 600))
  have HLN := hidM (flatE_len (es.take 600))
  have HTL : Hid ((es.take 600).length = min 600 es.length) := by unfold Hid; simp
  have HRT := hidM (fun (w' : World) (v : Value) (h1 : w'.ownsRow w.heap.size 47 3 v (es.take 600).length (flatE (es.take 600))) h2 => few_ret (w := w) h1 h2)
  clear hf hf'
  by_cases hlt : 600 < es.length
  · have g1 : decide ((600 : Int) < (es.length : Int)) = true := by simp; omega
    have HM : Hid (min 600 es.length = 600) := by unfold Hid; omega
    rw [HM.out] at HTL
    rw [HTL.out] at HLN HRT
    generalize es.take 600 = us at *
    generalize flatE us = news at *
    have c0 : (600 : Int) ≤ (c : Int) := by omega
    clear HM
    go_enter Tryz.func5, Tryz.ntmps5
    go_wp2_with (at_builtin; refine wpList_append_own _ rfl _ _ 22 rfl w.heap.size 47 i0 (.agg #[.int .i64 0, .string .empty, .string .empty]) 3 40 Tryz.underlying22 hi hz0 hz1 hz2 rfl (by decide) _ _ _ rfl (World.ownsRow_made w #[] 0 (Nat.le_refl _) (Nat.zero_le _) (by simp)) ⟨b, off, none⟩ 600 c news rfl ?qc1 ?qc2 ?qc3 ?qc4 ?qc5 ?qc6 ?_)
    case qc1 => exact HLN.out
    case qc2 =>
      intro j u hj
      rw [Addr.add_lit]
      exact Lib.cell?_alloc_some _ (HNW.out j u hj)
    case qc3 => exact HON.out
    case qc4 => unfold maxLen; omega
    case qc5 => omega
    case qc6 => simp
    intro v' w1 hown hgrow hnil
    have HR := hidM (HRT.out w1 v' (by simpa using hown) hnil)
    have HB : Hid (Below w.heap.size w w1) := ((Below.refl _ w).alloc (Nat.le_refl _) _).grown hgrow (by simp) (by intro k hk; simp [Value.ownBlock] at hk; omega)
    clear hown hgrow hnil
    go_wp2
    go_ret
    exact ⟨HR.out, HB.out⟩
  · have g1 : decide ((600 : Int) < (es.length : Int)) = false := by simp; omega
    have HM : Hid (min 600 es.length = es.length) := by unfold Hid; omega
    rw [HM.out] at HTL
    rw [HTL.out] at HLN HRT
    generalize es.take 600 = us at *
    generalize flatE us = news at *
    have c0 : es.length ≤ 600 := by omega
    clear HM
    generalize es.length = L at *
    go_enter Tryz.func5, Tryz.ntmps5
    go_wp2_with (at_builtin; refine wpList_append_own _ rfl _ _ 22 rfl w.heap.size 47 i0 (.agg #[.int .i64 0, .string .empty, .string .empty]) 3 40 Tryz.underlying22 hi hz0 hz1 hz2 rfl (by decide) _ _ _ rfl (World.ownsRow_made w #[] 0 (Nat.le_refl _) (Nat.zero_le _) (by simp)) ⟨b, off, none⟩ L c news rfl ?qc1 ?qc2 ?qc3 ?qc4 ?qc5 ?qc6 ?_)
    case qc1 => exact HLN.out
    case qc2 =>
      intro j u hj
      rw [Addr.add_lit]
      exact Lib.cell?_alloc_some _ (HNW.out j u hj)
    case qc3 => exact HON.out
    case qc4 => unfold maxLen; omega
    case qc5 => omega
    case qc6 => simp
    intro v' w1 hown hgrow hnil
    have HR := hidM (HRT.out w1 v' (by simpa using hown) hnil)
    have HB : Hid (Below w.heap.size w w1) := ((Below.refl _ w).alloc (Nat.le_refl _) _).grown hgrow (by simp) (by intro k hk; simp [Value.ownBlock] at hk; omega)
    clear hown hgrow hnil
    go_wp2
    go_ret
    exact ⟨HR.out, HB.out⟩
set_option maxHeartbeats 1600000 in
set_option maxRecDepth 100000 in
theorem few_empty (ad : Addr) (c : Nat) (w : World) : Calls Tryz.prog 5 #[.slice (some ad) 0 c] w fun e w' => FewE w [] e w' ∧ Below w.heap.size w w' := by
  obtain ⟨i0, hi, hz0, hz1, hz2⟩ := info_parts info29
  have HRT := hidM (fun (w' : World) (v : Value) (h1 : w'.ownsRow w.heap.size 47 3 v 0 []) h2 => few_ret (w := w) (es := []) h1 h2)
  go_enter Tryz.func5, Tryz.ntmps5
  go_wp2_with (at_builtin; refine wpList_append_own _ rfl _ _ 22 rfl w.heap.size 47 i0 (.agg #[.int .i64 0, .string .empty, .string .empty]) 3 40 Tryz.underlying22 hi hz0 hz1 hz2 rfl (by decide) _ _ _ rfl (World.ownsRow_made w #[] 0 (Nat.le_refl _) (Nat.zero_le _) (by simp)) ad 0 c [] rfl rfl (by intro j u hj; simp at hj) (by intro u hu; cases hu) (by unfold maxLen; omega) (by omega) (by simp) ?_)
  intro v' w1 hown hgrow hnil
  have HR := hidM (HRT.out w1 v' (by simpa using hown) hnil)
  have HB : Hid (Below w.heap.size w w1) := ((Below.refl _ w).alloc (Nat.le_refl _) _).grown hgrow (by simp) (by intro k hk; simp [Value.ownBlock] at hk; omega)
  clear hown hgrow hnil
  go_wp2
  go_ret
  exact ⟨HR.out, HB.out⟩
theorem fewE_any (v : Value) (es : List EntB) (w : World) (h : EntsV w v es) : Calls Tryz.prog 5 #[v] w fun e w' => FewE w (es.take 600) e w' ∧ Below w.heap.size w w' := by
  rcases h with ⟨rfl, rfl⟩ | ⟨a, c, rfl, rfl⟩ | ⟨b, off, c, rfl, _, h2, h3⟩
  · exact few_nil w
  · exact few_empty a c w
  · exact few_at b off c es w h2 h3
end Go.Proofs.YtlmeoahcpmikiaaGreatDoor.T
namespace Go.Proofs.YtlmeoahcpmikiaaGreatDoor.T
open Go.RowKit
theorem EntsIn.at {w : World} {a : Option Addr} {es : List EntB} (h : EntsIn w a es) (k : Nat) (hk : k < es.length) : ∃ b off, a = some ⟨b, off, none⟩ ∧ EntsAt w b off es := by
  rcases h with rfl | ⟨b, off, h1, _, h3⟩
  · cases hk
  · exact ⟨b, off, h1, h3⟩
theorem ents_ext : ∀ {es fs : List EntB}, es.length = fs.length → (∀ k, k < es.length → es.getD k noE = fs.getD k noE) → es = fs
  | [], [], _,_ => rfl
  | e :: es, f :: fs, hl, h => by
    have h0 := h 0 (by simp)
    simp only [List.getD_cons_zero] at h0
    rw [h0, ents_ext (es := es) (fs := fs) (by simpa using hl) (fun k hk => by have := h (k + 1) (by simp; omega); simpa using this)]
theorem held29 : Tryz.prog.stoodInHeld 47 = false := by kernel_rfl
theorem guard29 : Tryz.prog.eqGuardType Tryz.prog.depth 47 = false := by kernel_rfl
theorem struct29 : Tryz.prog.underlying 47 = some (.struct (Tryz.prog.fieldsOf 47)) := by kernel_rfl
def entEq (a b : EntB) : Bool := a.1 == b.1 && (a.2.1.toList == b.2.1.toList && a.2.2.toList == b.2.2.toList)
theorem entEq_iff (a b : EntB) : entEq a b = decide (a = b) := by
  have key : ∀ x y : ByteArray, (x.toList == y.toList) = decide (x = y) := fun x y => by
    rw [ByteArray.toList_eq, ByteArray.toList_eq]
    by_cases h : x = y
    · rw [h, decide_eq_true rfl]; simp
    · rw [decide_eq_false h]
      simp only [beq_eq_false_iff_ne, ne_eq]
      exact fun e => h (bytes_ext e)
  obtain ⟨a1, a2, a3⟩ := a
  obtain ⟨b1, b2, b3⟩ := b
  unfold entEq
  simp only [key]
  rw [Bool.eq_iff_iff]
  simp [Prod.mk.injEq]
theorem fields29 : (Tryz.prog.fieldsOf 47).toList.map (fun f => (f.name, f.type, f.offset)) = [("Mode", 3, 0), ("Name", 9, 1), ("Id", 9, 2)] := by kernel_rfl
theorem equal29 (m1 m2 : Int) (n1 n2 i1 i2 : ByteArray) (w : World) :
    (Op.equalIn 10000 47 (.agg #[.int .i64 m1, .string n1, .string i1]) (.agg #[.int .i64 m2, .string n2, .string i2])).run Tryz.prog w = .ok (entEq (m1, n1, i1) (m2, n2, i2)) w := by
  rw [run_equalIn_struct w 9999 47 _ _ struct29 held29]
  have hf := fields29
  obtain ⟨f1, f2, f3, he⟩ : ∃ f1 f2 f3, (Tryz.prog.fieldsOf 47).toList = [f1, f2, f3] := by
    generalize (Tryz.prog.fieldsOf 47).toList = fl at hf
    rcases fl with _ | ⟨f1, _ | ⟨f2, _ | ⟨f3, _ | ⟨f4, fl⟩⟩⟩⟩
    · simp at hf
    · simp at hf
    · simp at hf
    · exact ⟨f1, f2, f3, rfl⟩
    · simp at hf
  rw [he] at hf ⊢
  simp only [List.map_cons, List.map_nil, List.cons.injEq, Prod.mk.injEq, and_true] at hf
  obtain ⟨⟨a1, a2, a3⟩, ⟨b1, b2, b3⟩, ⟨c1, c2, c3⟩⟩ := hf
  have p1 : ∀ (m : Int) (n i : ByteArray) (w : World), (part 3 #[.int .i64 m, .string n, .string i] 0).run Tryz.prog w = .ok (.int .i64 m) w := by intro m n i w; kernel_rfl
  have p2 : ∀ (m : Int) (n i : ByteArray) (w : World), (part 9 #[.int .i64 m, .string n, .string i] 1).run Tryz.prog w = .ok (.string n) w := by intro m n i w; kernel_rfl
  have p3 : ∀ (m : Int) (n i : ByteArray) (w : World), (part 9 #[.int .i64 m, .string n, .string i] 2).run Tryz.prog w = .ok (.string i) w := by intro m n i w; kernel_rfl
  unfold entEq
  simp only [Op.eqFields, a1, a2, a3, b1, b2, b3, c1, c2, c3, Sem.run_ite, Sem.run_bind, p1, p2, p3, Result.andThen_ok, ne_eq, String.reduceEq, not_false_eq_true, if_true]
  rw [run_equalIn_int w 9998 3 .i64 .i64 m1 m2 Tryz.underlying3]
  simp only [Result.andThen_ok]
  cases h1 : (m1 == m2) with
  | false => simp
  | true =>
    simp only [Bool.not_true, Bool.false_eq_true, if_false, Bool.true_and]
    rw [run_equalIn_string w 9998 9 n1 n2 Tryz.underlying9]
    simp only [Result.andThen_ok]
    cases h2 : (n1.toList == n2.toList) with
    | false => simp
    | true =>
      simp only [Bool.not_true, Bool.false_eq_true, if_false, Bool.true_and]
      rw [run_equalIn_string w 9998 9 i1 i2 Tryz.underlying9]
      simp only [Result.andThen_ok]
      cases h3 : (i1.toList == i2.toList) with
      | false => simp
      | true => simp
set_option maxHeartbeats 2000000 in
set_option maxRecDepth 100000 in
theorem rsame_any (a b : Option Addr) (ca cb : Nat) (es fs : List EntB) (w : World) (ha : EntsIn w a es) (hb : EntsIn w b fs) (h5 : es.length ≤ 1000) :
    Calls Tryz.prog 14 #[.slice a es.length ca, .slice b fs.length cb] w fun e w' => e = .returned (.bool (decide (es = fs))) ∧ Below w.heap.size w w' := by
  by_cases hl : es.length = fs.length
  · have HAB : Hid (∀ k, k < es.length → ∃ b1 o1 b2 o2, a = some ⟨b1, o1, none⟩ ∧ b = some ⟨b2, o2, none⟩ ∧ EntsAt w b1 o1 es ∧ EntsAt w b2 o2 fs) := fun k hk => by
      obtain ⟨b1, o1, e1, e2⟩ := ha.at k hk
      obtain ⟨b2, o2, e3, e4⟩ := hb.at k (by omega)
      exact ⟨b1, o1, b2, o2, e1, e3, e2, e4⟩
    have HEX : Hid ((∀ k, k < es.length → es.getD k noE = fs.getD k noE) → decide (es = fs) = true) := fun h => decide_eq_true (ents_ext hl h)
    have HNE : Hid (∀ k, es.getD k noE ≠ fs.getD k noE → decide (es = fs) = false) := fun k h => decide_eq_false fun e => h (by rw [e])
    obtain ⟨n, hn⟩ : ∃ n, n = es.length := ⟨_, rfl⟩
    have hn2 : fs.length = n := by omega
    rw [hn2, ← hn]
    rw [← hn] at HAB HEX h5
    generalize decide (es = fs) = R at *
    have HL : Hid (es.length = n ∧ fs.length = n) := ⟨hn.symm, hn2⟩
    clear ha hb hl hn hn2
    go_enter Tryz.func14, Tryz.ntmps14
    go_wp2
    go_loopw [5, 13] (fun _ iv wr => ∃ k : Nat, k ≤ n ∧ iv = .int .i64 (k : Int) ∧ (∀ j, j < k → es.getD j noE = fs.getD j noE) ∧ Below w.heap.size w wr ∧ ∃ q, wr = w.drewN q) (fun _ iv _ => n - (intOf iv).toNat)
    case atStart => exact ⟨0, Nat.zero_le _, rfl, fun j hj => by omega, Below.refl _ _, 0, rfl⟩
    case round =>
      obtain ⟨k, hk, rfl, hb, hbel, q, rfl⟩ := hrel
      have HB := hidM hb
      have HW := hidM hbel
      clear hb hbel
      by_cases hlt : k < n
      · obtain ⟨b1, o1, b2, o2, rfl, rfl, e3, e4⟩ := HAB.out k hlt
        obtain ⟨x0, x1, x2⟩ := e3 k (by rw [HL.out.1]; exact hlt)
        obtain ⟨y0, y1, y2⟩ := e4 k (by rw [HL.out.2]; exact hlt)
        have hnx := HNE.out k
        have HNX : Hid (es.getD k noE = fs.getD k noE → ∀ j, j < k + 1 → es.getD j noE = fs.getD j noE) := fun h j hj => by
          by_cases e : j = k
          · subst e; exact h
          · exact HB.out j (by omega)
        clear e3 e4 HAB
        generalize es.getD k noE = ek at *
        generalize fs.getD k noE = fk at *
        obtain ⟨m1, nm1, id1⟩ := ek
        obtain ⟨m2, nm2, id2⟩ := fk
        simp only at x0 x1 x2 y0 y1 y2
        have hgd := guard29
        have heq := fun V => equal29 m1 m2 nm1 nm2 id1 id2 V
        rw [entEq_iff] at heq
        by_cases he : ((m1, nm1, id1) : EntB) = (m2, nm2, id2)
        · rw [decide_eq_true he] at heq
          have HN2 := hidM (HNX.out he)
          clear he HNX hnx
          go_wp2
          go_quiet (fail)
          go_wp2
          go_roundw
          case rel => exact ⟨k + 1, by omega, by go_num, HN2.out, below_drewN (Below.refl _ _) _,_, rfl⟩
          case measure => simp [intOf]; omega
        · rw [decide_eq_false he] at heq
          have HR := hidM (hnx he)
          clear he HNX hnx
          go_wp2
          go_quiet (fail)
          go_wp2
          go_ret
          exact ⟨by rw [HR.out]; rfl, below_drewN HW.out _⟩
      · have HR := hidM (HEX.out fun j hj => HB.out j (by omega))
        clear HAB HEX HNE
        go_wp2
        go_ret
        exact ⟨by rw [HR.out]; rfl, HW.out⟩
  · have b1 : ((es.length : Int) == (fs.length : Int)) = false := by simp only [beq_eq_false_iff_ne, ne_eq]; omega
    have HR : Hid (decide (es = fs) = false) := decide_eq_false fun e => hl (by rw [e])
    generalize es.length = n at *
    generalize fs.length = m at *
    clear hl ha hb
    go_enter Tryz.func14, Tryz.ntmps14
    go_wp2
    go_ret
    exact ⟨by rw [HR.out]; rfl, Below.refl _ _⟩
/-- what Find answers -/
def findE (es : List EntB) (nm : ByteArray) : Option EntB := es.find? fun e => decide (e.2.1 = nm)
def findV (x : Option EntB) : Value := .tuple #[.agg #[.int .i64 (x.getD noE).1, .string (x.getD noE).2.1, .string (x.getD noE).2.2], .int .i64 (if x.isSome then 0 else 7)]
theorem findE_no : ∀ {es : List EntB} {nm : ByteArray}, (∀ k, k < es.length → (es.getD k noE).2.1 ≠ nm) → findE es nm = none := by
  intro es nm h
  unfold findE
  rw [List.find?_eq_none]
  intro x hx
  obtain ⟨k, hk, rfl⟩ := List.mem_iff_getElem.1 hx
  have := h k hk
  rw [List.getD_eq_getElem?_getD, List.getElem?_eq_getElem hk] at this
  simpa using this
theorem findE_yes : ∀ {es : List EntB} {nm : ByteArray} {k : Nat}, k < es.length → (es.getD k noE).2.1 = nm → (∀ j, j < k → (es.getD j noE).2.1 ≠ nm) → findE es nm = some (es.getD k noE)
  | e :: es, nm, 0, _, h, _ => by
    simp only [List.getD_cons_zero] at h ⊢
    unfold findE
    rw [List.find?_cons, decide_eq_true h]
  | e :: es, nm, k + 1, hk, h, hb => by
    have h0 := hb 0 (by omega)
    simp only [List.getD_cons_zero] at h0
    simp only [List.getD_cons_succ] at h ⊢
    have ih := findE_yes (es := es) (nm := nm) (k := k) (by simpa using hk) h (fun j hj => by have := hb (j + 1) (by omega); simpa using this)
    unfold findE at ih ⊢
    rw [List.find?_cons, decide_eq_false h0]
    exact ih
theorem results_ct {fn : Func} {p u : Tmp} {ty : TypeId} {P : Program} (h : fn.results = #[.cell p ty, .tmp u]) (tmps : Array Value) (w : World) (g : Nat) (cs : Array Value)
    (hp : tmps.getD p undef = .pointer (some ⟨g, 0, none⟩)) (hr : (loadVar ty ⟨g, 0, none⟩).run P w = .ok (.agg cs) w) :
    (results fn tmps).run P w = .ok (.tuple #[.agg cs, tmps.getD u undef]) w := by
  have hp' : tmps[p]?.getD undef = .pointer (some ⟨g, 0, none⟩) := by simpa using hp
  simp only [results, h]
  simp [hp', asAddr, hr, Result.andThen]
set_option maxHeartbeats 2000000 in
set_option maxRecDepth 100000 in
theorem treeFind_any (a : Option Addr) (ca : Nat) (es : List EntB) (name : ByteArray) (w : World) (ha : EntsIn w a es) (h5 : es.length ≤ 1000) :
    Calls Tryz.prog 15 #[.slice a es.length ca, .string name] w fun e w' => e = .returned (findV (findE es name)) ∧ Below w.heap.size w w' := by
  have HX := hidM (heap_alloc_new w (.cells #[.int .i64 0, .string ⟨#[]⟩, .string ⟨#[]⟩] 47))
  have HB0 : Hid (Below w.heap.size w (w.alloc (.cells #[.int .i64 0, .string ⟨#[]⟩, .string ⟨#[]⟩] 47))) := (Below.refl _ w).alloc (Nat.le_refl _) _
  have HAB : Hid (∀ V k, Below w.heap.size w V → k < es.length → ∃ b1 o1, a = some ⟨b1, o1, none⟩ ∧ EntsAt V b1 o1 es) := fun V k hV hk => by
    obtain ⟨b1, o1, e1, e2⟩ := (ha.below hV).at k hk
    exact ⟨b1, o1, e1, e2⟩
  have HYE := hidM (fun k (hk : k < es.length) h hb => findE_yes (es := es) (nm := name) (k := k) hk h hb)
  have HNO := hidM (fun h => findE_no (es := es) (nm := name) h)
  have hz := zero29
  obtain ⟨n, hn⟩ : ∃ n, n = es.length := ⟨_, rfl⟩
  rw [← hn] at HAB HYE HNO h5 ⊢
  have HL := hidM hn
  clear ha hn
  go_enter Tryz.func15, Tryz.ntmps15
  go_wp2
  generalize (w.alloc (.cells #[.int .i64 0, .string ⟨#[]⟩, .string ⟨#[]⟩] 47)) = W0 at *
  go_loopw [7, 10] (fun _ iv wr => ∃ k : Nat, k ≤ n ∧ iv = .int .i64 (k : Int) ∧ (∀ j, j < k → (es.getD j noE).2.1 ≠ name) ∧ Below w.heap.size w wr ∧ wr.heap[w.heap.size]? = some (.cells #[.int .i64 0, .string ⟨#[]⟩, .string ⟨#[]⟩] 47 (0, 0))) (fun _ iv _ => n - (intOf iv).toNat)
  case atStart => exact ⟨0, Nat.zero_le _, rfl, fun j hj => by omega, HB0.out, HX.out⟩
  case round =>
    obtain ⟨k, hk, rfl, hb, hbel, hx⟩ := hrel
    have HB := hidM hb
    have HW := hidM hbel
    have HXr := hidM hx
    clear hb hbel hx HX HB0
    have hwr := (Array.getElem?_eq_some_iff.1 HXr.out).1
    by_cases hlt : k < n
    · obtain ⟨b1, o1, rfl, e3⟩ := HAB.out wr k HW.out hlt
      obtain ⟨x0, x1, x2⟩ := e3 k (by rw [← HL.out]; exact hlt)
      have HYK := hidM (HYE.out k hlt)
      have HNX : Hid ((es.getD k noE).2.1 ≠ name → ∀ j, j < k + 1 → (es.getD j noE).2.1 ≠ name) := fun h j hj => by
        by_cases e : j = k
        · subst e; exact h
        · exact HB.out j (by omega)
      clear e3 HAB HYE HNO
      generalize es.getD k noE = ek at *
      obtain ⟨m1, nm1, id1⟩ := ek
      simp only at x0 x1 x2
      have HEB : Hid (EBox (wr.alloc (.cells #[.int .i64 m1, .string nm1, .string id1] 47)) wr.heap.size m1 nm1 id1) := heap_alloc_new wr _
      have HBa : Hid (Below w.heap.size w (wr.alloc (.cells #[.int .i64 m1, .string nm1, .string id1] 47))) := HW.out.alloc HW.out.size _
      have HXa : Hid ((wr.alloc (.cells #[.int .i64 m1, .string nm1, .string id1] 47)).heap[w.heap.size]? = some (.cells #[.int .i64 0, .string ⟨#[]⟩, .string ⟨#[]⟩] 47 (0, 0))) := (heap_alloc_old _ _ hwr).trans HXr.out
      have c0 := HEB.out.c0
      have c1 := HEB.out.c1
      have c2 := HEB.out.c2
      by_cases he : nm1 = name
      · have b1 : (nm1.toList == name.toList) = true := by rw [he]; simp
        have HR := hidM (HYK.out he HB.out)
        clear he HYK HNX
        go_wp2_with (refine wpList_store_row rfl 47 (.tmp 4) (.tmp 18) rfl w.heap.size #[.int .i64 m1, .string nm1, .string id1] rfl rfl 47 #[.int .i64 0, .string ⟨#[]⟩, .string ⟨#[]⟩] HXa.out entry29 rfl (ones29 _ _ _) ?_)
        exact bodyPost_ret (results_ct rfl _ _ w.heap.size _ rfl (run_loadVar_row _ w.heap.size 47 47 _ (0, 0) _ (setRow_heap _ _ _ _ 47 _ HXa.out) Tryz.underlying47 rfl entry29)) rfl ⟨by rw [HR.out]; rfl, below_setRow HBa.out (Nat.le_refl _)⟩
      · have b1 := bytes_ne he
        have HN2 := hidM (HNX.out he)
        clear he HYK HNX
        go_wp2
        go_roundw
        case rel => exact ⟨k + 1, by omega, by go_num, HN2.out, HBa.out, HXa.out⟩
        case measure => simp [intOf]; omega
    · have HR := hidM (HNO.out fun j hj => HB.out j (by omega))
      clear HAB HYE HNO
      go_wp2_with (refine wpList_store_row rfl 47 (.tmp 4) (.tmp 20) rfl w.heap.size #[.int .i64 0, .string ⟨#[]⟩, .string ⟨#[]⟩] rfl rfl 47 #[.int .i64 0, .string ⟨#[]⟩, .string ⟨#[]⟩] HXr.out entry29 rfl (ones29 _ _ _) ?_)
      exact bodyPost_ret (results_ct rfl _ _ w.heap.size _ rfl (run_loadVar_row _ w.heap.size 47 47 _ (0, 0) _ (setRow_heap _ _ _ _ 47 _ HXr.out) Tryz.underlying47 rfl entry29)) rfl ⟨by rw [HR.out]; rfl, below_setRow HW.out (Nat.le_refl _)⟩
end Go.Proofs.YtlmeoahcpmikiaaGreatDoor.T
namespace Go.Proofs.YtlmeoahcpmikiaaGreatDoor.T
open Go.RowKit
section
variable {w V w' : World} {B : Nat} {m : Int} {nm id : ByteArray}
end
theorem size_mk (l : List UInt8) : (⟨l.toArray⟩ : ByteArray).size = l.length := by show l.toArray.size = _; simp
end Go.Proofs.YtlmeoahcpmikiaaGreatDoor.T
namespace Go.Proofs.YtlmeoahcpmikiaaGreatDoor.T
open Go.RowKit
theorem flatE_app (a b : List EntB) : flatE (a ++ b) = flatE a ++ flatE b := by
  induction a with
  | nil => rfl
  | cons e a ih => simp [flatE, ih]
end Go.Proofs.YtlmeoahcpmikiaaGreatDoor.T
namespace Go.Proofs.YtlmeoahcpmikiaaGreatDoor.T
open Go.RowKit
def strSize : Value → Nat
  | .string b => b.size
  | _ => 0
theorem own_shape {w : World} {B : Nat} {v : Value} {es : List EntB} (h : w.ownsRow B 47 3 v es.length (flatE es)) : ∃ a cap, v = .slice a es.length cap ∧ es.length ≤ cap ∧ EntsIn w a es := by
  rcases h.2 with ⟨hn, h2⟩ | ⟨g, cap, cur, rfl, hbase, hbk, h1, h2, h3, h4⟩
  · have : es = [] := List.length_eq_zero_iff.1 h2
    subst this
    exact ⟨none, 0, hn, Nat.le_refl _, .inl rfl⟩
  · refine ⟨some ⟨g, 0, none⟩, cap, rfl, h1, .inr ⟨g, 0, rfl, (Array.getElem?_eq_some_iff.1 hbk).1, fun i hi => ?_⟩⟩
    obtain ⟨f0, f1, f2⟩ := flatE_at es i hi
    have hc : ∀ j u, (flatE es)[j]? = some u → w.cell? ⟨g, 0 + j, none⟩ = some u := fun j u hj => by
      have := World.ownsRow.cells h (g := g) rfl j u hj
      rw [Addr.add_lit] at this
      exact this
    exact ⟨hc _ _ f0, by rw [Nat.add_assoc]; exact hc _ _ f1, by rw [Nat.add_assoc]; exact hc _ _ f2⟩
/-- what Parse answers -/
def ParPost (w : World) (es : List EntB) (er : Int) (e : Ending) (W : World) : Prop := ∃ v, e = .returned (.tuple #[v, .int .i64 er]) ∧ W.ownsRow w.heap.size 47 3 v es.length (flatE es)
theorem own_below {w W : World} {B : Nat} {v : Value} {es : List EntB} (h : w.ownsRow B 47 3 v es.length (flatE es)) (hb : Below w.heap.size w W) : W.ownsRow B 47 3 v es.length (flatE es) :=
  h.kept (row := none) ⟨hb.os, hb.tape, hb.output, hb.size, fun k hk _ => hb.block k hk⟩ (by
    cases v.ownBlock with
    | none => exact .inl rfl
    | some k => exact .inr (by simp))
theorem own_more {W : World} {B : Nat} {v : Value} {es : List EntB} {e : EntB} (h : W.ownsRow B 47 3 v (es.length + 1) (flatE es ++ [.int .i64 e.1, .string e.2.1, .string e.2.2])) : W.ownsRow B 47 3 v (es ++ [e]).length (flatE (es ++ [e])) := by
  rw [flatE_app, List.length_append]
  exact h
theorem cell_new3 {W : World} {B : Nat} (hB : W.heap.size = B) (u v x : Value) : ∀ j y, [u, v, x][j]? = some y → (W.alloc (.cells #[u, v, x] 47)).cell? ((⟨B, 0, none⟩ : Addr).add j) = some y := by
  subst hB
  intro j y hj
  rcases j with _ | _ | _ | j
  · simp at hj; subst hj; rw [Addr.add_lit]; simp
  · simp at hj; subst hj; rw [Addr.add_lit]; simp
  · simp at hj; subst hj; rw [Addr.add_lit]; simp
  · simp at hj
set_option maxHeartbeats 4000000 in
set_option maxRecDepth 100000 in
theorem tparse_any (s : ByteArray) (w : World) (hG : GT w) (hs : s.size ≤ 140737488355328) :
    Calls Tryz.prog 13 #[.string s] w fun e w' => ParPost w (parseF s.data.toList []).2 (parseF s.data.toList []).1 e w' ∧ Below w.heap.size w w' := by
  obtain ⟨i0, hi, hz0, hz1, hz2⟩ := info_parts info29
  have HG := hidM hG
  clear hG
  generalize hPP : parseF s.data.toList [] = PP
  have HP0 := hidM hPP
  clear hPP
  go_enter Tryz.func13, Tryz.ntmps13
  go_wp2
  go_loopw [0, 4, 5, 6, 7] (fun sv lv _ _ _ wr => ∃ (r : ByteArray) (acc : List EntB), sv = .string r ∧ r.size ≤ s.size ∧ wr.ownsRow w.heap.size 47 3 lv acc.length (flatE acc) ∧ acc.length ≤ 500 ∧ (∀ e ∈ acc, OkE e) ∧ parseF r.data.toList acc = PP ∧ Below w.heap.size w wr) (fun sv _ _ _ _ _ => strSize sv)
  case atStart => exact ⟨s, [], rfl, Nat.le_refl _, World.ownsRow_nil _ _ _ _, Nat.zero_le _, (fun e he => by cases he), HP0.out, Below.refl _ _⟩
  case round =>
    obtain ⟨r, acc, rfl, hrs, hown, h5, hok, hp, hbel⟩ := hrel
    have HO := hidM hown
    have HOK := hidM hok
    have HP := hidM hp
    have HW := hidM hbel
    have HGr := hidM (HG.out.below hbel)
    clear hown hok hp hbel HP0
    by_cases h0 : r = ⟨#[]⟩
    · have b0 : r.toList.isEmpty = true := by rw [h0]; decide +kernel
      have HR : Hid (PP = (checkV acc, if checkV acc = 0 then acc else [])) := by
        unfold Hid
        rw [← HP.out, h0]
        exact parse_nil acc
      obtain ⟨a, cap, rfl, hc, hE⟩ := own_shape HO.out
      have HCK := hidM (check_any a cap acc wr HGr.out hE HOK.out)
      clear h0 hE HP
      generalize hL : acc.length = len at *
      have HLL := hidM hL
      clear hL
      go_wp2_with fail
      refine HCK.out.mono ?_
      rintro _ w1 ⟨rfl, hb1⟩
      have HB1 := hidM (HW.out.trans (hb1.mono HW.out.size))
      have HO1 : Hid (w1.ownsRow w.heap.size 47 3 (.slice a len cap) len (flatE acc)) := by
        have h := own_below (es := acc) (by rw [HLL.out]; exact HO.out) hb1
        rw [HLL.out] at h
        exact h
      clear hb1 HCK HO
      by_cases hc0 : checkV acc = 0
      · have b1 : (checkV acc == 0) = true := by rw [hc0]; rfl
        have HR2 : Hid (PP = (0, acc)) := by unfold Hid; rw [HR.out, if_pos hc0, hc0]
        rw [hc0]
        clear hc0 HR b1
        go_wp2
        go_ret2
        refine ⟨⟨_, by rw [HR2.out]; rfl, ?_⟩, HB1.out⟩
        rw [HR2.out]
        rw [← HLL.out] at HO1
        simp only
        rw [HLL.out] at HO1 ⊢
        exact HO1.out
      · have b1 : (checkV acc == 0) = false := by simp; exact hc0
        have HR2 : Hid (PP = (checkV acc, [])) := by unfold Hid; rw [HR.out, if_neg hc0]
        generalize checkV acc = cv at *
        clear hc0 HR
        go_wp2
        go_ret2
        refine ⟨⟨_, by rw [HR2.out]; rfl, ?_⟩, HB1.out⟩
        rw [HR2.out]
        exact World.ownsRow_nil _ _ _ _
    · have hl0 : r.data.toList ≠ [] := fun e => h0 (bytes_ext e)
      have b0 : r.toList.isEmpty = false := by
        rw [ByteArray.toList_eq]
        simpa using hl0
      have HFA := hidM (first_any r wr HGr.out (by omega))
      have HFO := hidM (first_ok (l := r.data.toList) (by rw [len_size]; omega))
      have HBAD := hidM (fun h => parse_bad (acc := acc) hl0 h)
      have HFULL := hidM (fun h h5 => parse_full (acc := acc) hl0 h h5)
      have HMORE := hidM (fun h h5 => parse_more (acc := acc) hl0 h h5)
      have HLESS := hidM (fun h => first_less (l := r.data.toList) h)
      rw [len_size] at HLESS
      rw [HP.out] at HBAD HFULL HMORE
      clear h0 hl0 HP
      generalize hx : firstR r.data.toList = x at *
      clear hx
      obtain ⟨er, ⟨m, nm, id⟩, rest⟩ := x
      simp only at HBAD HFULL HMORE HLESS HFO
      unfold firstV at HFA
      simp only at HFA
      obtain ⟨RB, hRB⟩ : ∃ RB : ByteArray, RB = ⟨rest.toArray⟩ := ⟨_, rfl⟩
      have HRBl : Hid (RB.data.toList = rest) := by unfold Hid; rw [hRB]
      have hRz : RB.size = rest.length := by rw [← HRBl.out]; exact (len_size RB).symm
      rw [← hRB] at HFA
      clear hRB
      go_wp2_with fail
      refine HFA.out.mono ?_
      rintro _ w1 ⟨rfl, hb1⟩
      have HB1 := hidM (HW.out.trans (hb1.mono HW.out.size))
      have HO1 := hidM (own_below HO.out hb1)
      have HEB : Hid (EBox (w1.alloc (.cells #[.int .i64 m, .string nm, .string id] 47)) w1.heap.size m nm id) := heap_alloc_new w1 _
      have HB2 : Hid (Below w.heap.size w (w1.alloc (.cells #[.int .i64 m, .string nm, .string id] 47))) := HB1.out.alloc HB1.out.size _
      have HO2 : Hid ((w1.alloc (.cells #[.int .i64 m, .string nm, .string id] 47)).ownsRow w.heap.size 47 3 u4 acc.length (flatE acc)) := HO1.out.alloc _
      clear hb1 HFA HO HW HB1 HO1 HGr
      have c0 := HEB.out.c0
      have c1 := HEB.out.c1
      have c2 := HEB.out.c2
      by_cases he : er = 0
      · subst he
        clear HBAD
        have HLS := hidM (HLESS.out rfl)
        obtain ⟨a, cap, rfl, hc, -⟩ := own_shape HO2.out
        by_cases hf : acc.length = 500
        · have HR := hidM (HFULL.out rfl hf)
          have b1 : ((acc.length : Int) == 500) = true := by rw [hf]; rfl
          generalize acc.length = len at *
          go_wp2
          go_ret2
          refine ⟨⟨_, by rw [HR.out]; rfl, ?_⟩, HB2.out⟩
          rw [HR.out]
          exact World.ownsRow_nil _ _ _ _
        · have HR := hidM (HMORE.out rfl hf)
          have b1 : ((acc.length : Int) == 500) = false := by simp only [beq_eq_false_iff_ne, ne_eq]; omega
          have h4 : acc.length ≤ 499 := by omega
          have HMK := hidM (fun (W : World) (v : Value) (h : W.ownsRow w.heap.size 47 3 v (acc.length + 1) (flatE acc ++ [.int .i64 m, .string nm, .string id])) => own_more (e := (m, nm, id)) h)
          have HAL : Hid ((acc ++ [((m, nm, id) : EntB)]).length = acc.length + 1) := by unfold Hid; simp
          have HOK2 : Hid (∀ e ∈ acc ++ [((m, nm, id) : EntB)], OkE e) := fun e he => by
            rcases List.mem_append.1 he with he | he
            · exact HOK.out e he
            · rw [List.mem_singleton.1 he]; exact HFO.out
          clear HFULL HMORE HLESS hf HOK
          generalize acc ++ [((m, nm, id) : EntB)] = acc2 at *
          generalize flatE acc = fl at *
          generalize acc.length = len at *
          go_wp2_with (at_builtin; refine wpList_append_own _ rfl _ _ 22 rfl w.heap.size 47 i0 (.agg #[.int .i64 0, .string .empty, .string .empty]) 3 40 Tryz.underlying22 hi hz0 hz1 hz2 rfl (by decide) _ _ _ rfl (World.ownsRow.alloc HO2.out _) ⟨_, 0, none⟩ 1 1 [.int .i64 m, .string nm, .string id] rfl rfl ?qc2 ?qc3 ?qc4 ?qc5 ?qc6 ?_)
          case qc2 => exact cell_new3 (by simp) _ _ _
          case qc3 => intro u hu; simp at hu; rcases hu with rfl | rfl | rfl <;> rfl
          case qc4 => unfold maxLen; omega
          case qc5 => omega
          case qc6 => have := HB2.out.size; simp at this ⊢; omega
          intro v' w3 hown' hgrow hnil
          have HO3 := hidM (HMK.out _ _ hown')
          have HB3 : Hid (Below w.heap.size w w3) := (HB2.out.alloc HB2.out.size _).grown hgrow (by have := HB2.out.size; simp at this ⊢; omega) (fun k hk => (HO2.out.lt k hk).1)
          clear hown' hgrow hnil HMK HO2
          go_wp2
          go_roundw
          case rel => exact ⟨RB, acc2, rfl, by have := HLS.out; omega, HO3.out, by rw [HAL.out]; omega, HOK2.out, by rw [HR.out, HRBl.out], HB3.out⟩
          case measure => show RB.size < r.size; have := HLS.out; omega
      · have b1 : (er == 0) = false := by simp; exact he
        have HR := hidM (HBAD.out he)
        clear HFULL HMORE HLESS HBAD he
        go_wp2
        go_ret2
        refine ⟨⟨_, by rw [HR.out]; rfl, ?_⟩, HB2.out⟩
        rw [HR.out]
        exact World.ownsRow_nil _ _ _ _
end Go.Proofs.YtlmeoahcpmikiaaGreatDoor.T
