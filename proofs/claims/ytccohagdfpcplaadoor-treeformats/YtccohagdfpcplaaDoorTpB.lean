/-
  Walks of tree: Find; of the document's: Same.
-/
import Derived.Test.YtccohagdfpcplaaDoorTpM
import Derived.Test.YtccohagdfpcplaaDoorTrV
import Derived.Laws.StructEq
namespace Go.Proofs.YtccohagdfpcplaaDoor
open Go.RowKit

theorem EntsIn.at {w : World} {a : Option Addr} {es : List EntB} (h : EntsIn w a es) (k : Nat) (hk : k < es.length) : ∃ b off, a = some ⟨b, off, none⟩ ∧ EntsAt w b off es := by
  rcases h with rfl | ⟨b, off, h1, _, h3⟩
  · cases hk
  · exact ⟨b, off, h1, h3⟩
theorem ents_ext : ∀ {es fs : List EntB}, es.length = fs.length → (∀ k, k < es.length → es.getD k noE = fs.getD k noE) → es = fs
  | [], [], _, _ => rfl
  | e :: es, f :: fs, hl, h => by
    have h0 := h 0 (by simp)
    simp only [List.getD_cons_zero] at h0
    rw [h0, ents_ext (es := es) (fs := fs) (by simpa using hl) (fun k hk => by have := h (k + 1) (by simp; omega); simpa using this)]
theorem held29 : Tryd.prog.stoodInHeld 29 = false := by kernel_rfl
theorem guard29 : Tryd.prog.eqGuardType Tryd.prog.depth 29 = false := by kernel_rfl
theorem struct29 : Tryd.prog.underlying 29 = some (.struct (Tryd.prog.fieldsOf 29)) := by kernel_rfl
def entEq (a b : EntB) : Bool := a.1 == b.1 && (a.2.1.toList == b.2.1.toList && a.2.2.toList == b.2.2.toList)
theorem entEq_iff (a b : EntB) : entEq a b = decide (a = b) := by
  have key : ∀ x y : ByteArray, (x.toList == y.toList) = decide (x = y) := fun x y => by
    rw [ByteArray.toList_eq, ByteArray.toList_eq]
    by_cases h : x = y
    · rw [h, decide_eq_true rfl]; simp
    · rw [decide_eq_false h]
      simp only [beq_eq_false_iff_ne, ne_eq]
      exact fun e => h (bytes_ext e)
  obtain ⟨a1, a2, a3⟩ := a
  obtain ⟨b1, b2, b3⟩ := b
  unfold entEq
  simp only [key]
  rw [Bool.eq_iff_iff]
  simp [Prod.mk.injEq]
theorem fields29 : (Tryd.prog.fieldsOf 29).toList.map (fun f => (f.name, f.type, f.offset)) = [("Mode", 3, 0), ("Name", 9, 1), ("Id", 9, 2)] := by kernel_rfl
theorem equal29 (m1 m2 : Int) (n1 n2 i1 i2 : ByteArray) (w : World) :
    (Op.equalIn 10000 29 (.agg #[.int .i64 m1, .string n1, .string i1]) (.agg #[.int .i64 m2, .string n2, .string i2])).run Tryd.prog w = .ok (entEq (m1, n1, i1) (m2, n2, i2)) w := by
  rw [run_equalIn_struct w 9999 29 _ _ struct29 held29]
  have hf := fields29
  obtain ⟨f1, f2, f3, he⟩ : ∃ f1 f2 f3, (Tryd.prog.fieldsOf 29).toList = [f1, f2, f3] := by
    generalize (Tryd.prog.fieldsOf 29).toList = fl at hf
    rcases fl with _ | ⟨f1, _ | ⟨f2, _ | ⟨f3, _ | ⟨f4, fl⟩⟩⟩⟩
    · simp at hf
    · simp at hf
    · simp at hf
    · exact ⟨f1, f2, f3, rfl⟩
    · simp at hf
  rw [he] at hf ⊢
  simp only [List.map_cons, List.map_nil, List.cons.injEq, Prod.mk.injEq, and_true] at hf
  obtain ⟨⟨a1, a2, a3⟩, ⟨b1, b2, b3⟩, ⟨c1, c2, c3⟩⟩ := hf
  have p1 : ∀ (m : Int) (n i : ByteArray) (w : World), (part 3 #[.int .i64 m, .string n, .string i] 0).run Tryd.prog w = .ok (.int .i64 m) w := by intro m n i w; kernel_rfl
  have p2 : ∀ (m : Int) (n i : ByteArray) (w : World), (part 9 #[.int .i64 m, .string n, .string i] 1).run Tryd.prog w = .ok (.string n) w := by intro m n i w; kernel_rfl
  have p3 : ∀ (m : Int) (n i : ByteArray) (w : World), (part 9 #[.int .i64 m, .string n, .string i] 2).run Tryd.prog w = .ok (.string i) w := by intro m n i w; kernel_rfl
  unfold entEq
  simp only [Op.eqFields, a1, a2, a3, b1, b2, b3, c1, c2, c3, Sem.run_ite, Sem.run_bind, p1, p2, p3, Result.andThen_ok, ne_eq, String.reduceEq, not_false_eq_true, if_true]
  rw [run_equalIn_int w 9998 3 .i64 .i64 m1 m2 Tryd.underlying3]
  simp only [Result.andThen_ok]
  cases h1 : (m1 == m2) with
  | false => simp
  | true =>
    simp only [Bool.not_true, Bool.false_eq_true, if_false, Bool.true_and]
    rw [run_equalIn_string w 9998 9 n1 n2 Tryd.underlying9]
    simp only [Result.andThen_ok]
    cases h2 : (n1.toList == n2.toList) with
    | false => simp
    | true =>
      simp only [Bool.not_true, Bool.false_eq_true, if_false, Bool.true_and]
      rw [run_equalIn_string w 9998 9 i1 i2 Tryd.underlying9]
      simp only [Result.andThen_ok]
      cases h3 : (i1.toList == i2.toList) with
      | false => simp
      | true => simp
theorem neq29 (m1 m2 : Int) (n1 n2 i1 i2 : ByteArray) (w : World) :
    (binOp .neq 29 (.agg #[.int .i64 m1, .string n1, .string i1]) (.agg #[.int .i64 m2, .string n2, .string i2])).run Tryd.prog w = .ok (.bool (!entEq (m1, n1, i1) (m2, n2, i2))) w := by
  rw [run_neq_struct, equal29]; rfl
set_option maxHeartbeats 2000000 in
set_option maxRecDepth 100000 in
theorem rsame_any (a b : Option Addr) (ca cb : Nat) (es fs : List EntB) (w : World) (ha : EntsIn w a es) (hb : EntsIn w b fs) (h5 : es.length ≤ 1000) :
    Calls Tryd.prog 17 #[.slice a es.length ca, .slice b fs.length cb] w fun e w' => e = .returned (.bool (decide (es = fs))) ∧ Below w.heap.size w w' := by
  by_cases hl : es.length = fs.length
  · have HAB : Hid (∀ k, k < es.length → ∃ b1 o1 b2 o2, a = some ⟨b1, o1, none⟩ ∧ b = some ⟨b2, o2, none⟩ ∧ EntsAt w b1 o1 es ∧ EntsAt w b2 o2 fs) := fun k hk => by
      obtain ⟨b1, o1, e1, e2⟩ := ha.at k hk
      obtain ⟨b2, o2, e3, e4⟩ := hb.at k (by omega)
      exact ⟨b1, o1, b2, o2, e1, e3, e2, e4⟩
    have HEX : Hid ((∀ k, k < es.length → es.getD k noE = fs.getD k noE) → decide (es = fs) = true) := fun h => decide_eq_true (ents_ext hl h)
    have HNE : Hid (∀ k, es.getD k noE ≠ fs.getD k noE → decide (es = fs) = false) := fun k h => decide_eq_false fun e => h (by rw [e])
    obtain ⟨n, hn⟩ : ∃ n, n = es.length := ⟨_, rfl⟩
    have hn2 : fs.length = n := by omega
    rw [hn2, ← hn]
    rw [← hn] at HAB HEX h5
    generalize decide (es = fs) = R at *
    have HL : Hid (es.length = n ∧ fs.length = n) := ⟨hn.symm, hn2⟩
    clear ha hb hl hn hn2
    go_enter Tryd.func17, Tryd.ntmps17
    go_wp2
    go_loopw [5, 13] (fun _ iv wr => ∃ k : Nat, k ≤ n ∧ iv = .int .i64 (k : Int) ∧ (∀ j, j < k → es.getD j noE = fs.getD j noE) ∧ Below w.heap.size w wr ∧ ∃ q, wr = w.drewN q) (fun _ iv _ => n - (intOf iv).toNat)
    case atStart => exact ⟨0, Nat.zero_le _, rfl, fun j hj => by omega, Below.refl _ _, 0, rfl⟩
    case round =>
      obtain ⟨k, hk, rfl, hb, hbel, q, rfl⟩ := hrel
      have HB := hidM hb
      have HW := hidM hbel
      clear hb hbel
      by_cases hlt : k < n
      · obtain ⟨b1, o1, b2, o2, rfl, rfl, e3, e4⟩ := HAB.out k hlt
        obtain ⟨x0, x1, x2⟩ := e3 k (by rw [HL.out.1]; exact hlt)
        obtain ⟨y0, y1, y2⟩ := e4 k (by rw [HL.out.2]; exact hlt)
        have hnx := HNE.out k
        have HNX : Hid (es.getD k noE = fs.getD k noE → ∀ j, j < k + 1 → es.getD j noE = fs.getD j noE) := fun h j hj => by
          by_cases e : j = k
          · subst e; exact h
          · exact HB.out j (by omega)
        clear e3 e4 HAB
        generalize es.getD k noE = ek at *
        generalize fs.getD k noE = fk at *
        obtain ⟨m1, nm1, id1⟩ := ek
        obtain ⟨m2, nm2, id2⟩ := fk
        simp only at x0 x1 x2 y0 y1 y2
        have hgd := guard29
        have heq := fun V => equal29 m1 m2 nm1 nm2 id1 id2 V
        rw [entEq_iff] at heq
        by_cases he : ((m1, nm1, id1) : EntB) = (m2, nm2, id2)
        · rw [decide_eq_true he] at heq
          have HN2 := hidM (HNX.out he)
          clear he HNX hnx
          go_wp2
          go_quiet (fail)
          go_wp2
          go_roundw
          case rel => exact ⟨k + 1, by omega, by go_num, HN2.out, below_drewN (Below.refl _ _) _, _, rfl⟩
          case measure => simp [intOf]; omega
        · rw [decide_eq_false he] at heq
          have HR := hidM (hnx he)
          clear he HNX hnx
          go_wp2
          go_quiet (fail)
          go_wp2
          go_ret
          exact ⟨by rw [HR.out]; rfl, below_drewN HW.out _⟩
      · have HR := hidM (HEX.out fun j hj => HB.out j (by omega))
        clear HAB HEX HNE
        go_wp2
        go_ret
        exact ⟨by rw [HR.out]; rfl, HW.out⟩
  · have b1 : ((es.length : Int) == (fs.length : Int)) = false := by simp only [beq_eq_false_iff_ne, ne_eq]; omega
    have HR : Hid (decide (es = fs) = false) := decide_eq_false fun e => hl (by rw [e])
    generalize es.length = n at *
    generalize fs.length = m at *
    clear hl ha hb
    go_enter Tryd.func17, Tryd.ntmps17
    go_wp2
    go_ret
    exact ⟨by rw [HR.out]; rfl, Below.refl _ _⟩
/-- what Find answers -/
def findE (es : List EntB) (nm : ByteArray) : Option EntB := es.find? fun e => decide (e.2.1 = nm)
def findV (x : Option EntB) : Value := .tuple #[.agg #[.int .i64 (x.getD noE).1, .string (x.getD noE).2.1, .string (x.getD noE).2.2], .int .i64 (if x.isSome then 0 else 7)]
theorem findE_no : ∀ {es : List EntB} {nm : ByteArray}, (∀ k, k < es.length → (es.getD k noE).2.1 ≠ nm) → findE es nm = none := by
  intro es nm h
  unfold findE
  rw [List.find?_eq_none]
  intro x hx
  obtain ⟨k, hk, rfl⟩ := List.mem_iff_getElem.1 hx
  have := h k hk
  rw [List.getD_eq_getElem?_getD, List.getElem?_eq_getElem hk] at this
  simpa using this
theorem findE_yes : ∀ {es : List EntB} {nm : ByteArray} {k : Nat}, k < es.length → (es.getD k noE).2.1 = nm → (∀ j, j < k → (es.getD j noE).2.1 ≠ nm) → findE es nm = some (es.getD k noE)
  | e :: es, nm, 0, _, h, _ => by
    simp only [List.getD_cons_zero] at h ⊢
    unfold findE
    rw [List.find?_cons, decide_eq_true h]
  | e :: es, nm, k + 1, hk, h, hb => by
    have h0 := hb 0 (by omega)
    simp only [List.getD_cons_zero] at h0
    simp only [List.getD_cons_succ] at h ⊢
    have ih := findE_yes (es := es) (nm := nm) (k := k) (by simpa using hk) h (fun j hj => by have := hb (j + 1) (by omega); simpa using this)
    unfold findE at ih ⊢
    rw [List.find?_cons, decide_eq_false h0]
    exact ih
theorem results_ct {fn : Func} {p u : Tmp} {ty : TypeId} {P : Program} (h : fn.results = #[.cell p ty, .tmp u]) (tmps : Array Value) (w : World) (g : Nat) (cs : Array Value)
    (hp : tmps.getD p undef = .pointer (some ⟨g, 0, none⟩)) (hr : (loadVar ty ⟨g, 0, none⟩).run P w = .ok (.agg cs) w) :
    (results fn tmps).run P w = .ok (.tuple #[.agg cs, tmps.getD u undef]) w := by
  have hp' : tmps[p]?.getD undef = .pointer (some ⟨g, 0, none⟩) := by simpa using hp
  simp only [results, h]
  simp [hp', asAddr, hr, Result.andThen]
set_option maxHeartbeats 2000000 in
set_option maxRecDepth 100000 in
theorem treeFind_any (a : Option Addr) (ca : Nat) (es : List EntB) (name : ByteArray) (w : World) (ha : EntsIn w a es) (h5 : es.length ≤ 1000) :
    Calls Tryd.prog 12 #[.slice a es.length ca, .string name] w fun e w' => e = .returned (findV (findE es name)) ∧ Below w.heap.size w w' := by
  have HX := hidM (heap_alloc_new w (.cells #[.int .i64 0, .string ⟨#[]⟩, .string ⟨#[]⟩] 29))
  have HB0 : Hid (Below w.heap.size w (w.alloc (.cells #[.int .i64 0, .string ⟨#[]⟩, .string ⟨#[]⟩] 29))) := (Below.refl _ w).alloc (Nat.le_refl _) _
  have HAB : Hid (∀ V k, Below w.heap.size w V → k < es.length → ∃ b1 o1, a = some ⟨b1, o1, none⟩ ∧ EntsAt V b1 o1 es) := fun V k hV hk => by
    obtain ⟨b1, o1, e1, e2⟩ := (ha.below hV).at k hk
    exact ⟨b1, o1, e1, e2⟩
  have HYE := hidM (fun k (hk : k < es.length) h hb => findE_yes (es := es) (nm := name) (k := k) hk h hb)
  have HNO := hidM (fun h => findE_no (es := es) (nm := name) h)
  have hz := zero29
  obtain ⟨n, hn⟩ : ∃ n, n = es.length := ⟨_, rfl⟩
  rw [← hn] at HAB HYE HNO h5 ⊢
  have HL := hidM hn
  clear ha hn
  go_enter Tryd.func12, Tryd.ntmps12
  go_wp2
  generalize (w.alloc (.cells #[.int .i64 0, .string ⟨#[]⟩, .string ⟨#[]⟩] 29)) = W0 at *
  go_loopw [7, 10] (fun _ iv wr => ∃ k : Nat, k ≤ n ∧ iv = .int .i64 (k : Int) ∧ (∀ j, j < k → (es.getD j noE).2.1 ≠ name) ∧ Below w.heap.size w wr ∧ wr.heap[w.heap.size]? = some (.cells #[.int .i64 0, .string ⟨#[]⟩, .string ⟨#[]⟩] 29 (0, 0))) (fun _ iv _ => n - (intOf iv).toNat)
  case atStart => exact ⟨0, Nat.zero_le _, rfl, fun j hj => by omega, HB0.out, HX.out⟩
  case round =>
    obtain ⟨k, hk, rfl, hb, hbel, hx⟩ := hrel
    have HB := hidM hb
    have HW := hidM hbel
    have HXr := hidM hx
    clear hb hbel hx HX HB0
    have hwr := (Array.getElem?_eq_some_iff.1 HXr.out).1
    by_cases hlt : k < n
    · obtain ⟨b1, o1, rfl, e3⟩ := HAB.out wr k HW.out hlt
      obtain ⟨x0, x1, x2⟩ := e3 k (by rw [← HL.out]; exact hlt)
      have HYK := hidM (HYE.out k hlt)
      have HNX : Hid ((es.getD k noE).2.1 ≠ name → ∀ j, j < k + 1 → (es.getD j noE).2.1 ≠ name) := fun h j hj => by
        by_cases e : j = k
        · subst e; exact h
        · exact HB.out j (by omega)
      clear e3 HAB HYE HNO
      generalize es.getD k noE = ek at *
      obtain ⟨m1, nm1, id1⟩ := ek
      simp only at x0 x1 x2
      have HEB : Hid (EBox (wr.alloc (.cells #[.int .i64 m1, .string nm1, .string id1] 29)) wr.heap.size m1 nm1 id1) := heap_alloc_new wr _
      have HBa : Hid (Below w.heap.size w (wr.alloc (.cells #[.int .i64 m1, .string nm1, .string id1] 29))) := HW.out.alloc HW.out.size _
      have HXa : Hid ((wr.alloc (.cells #[.int .i64 m1, .string nm1, .string id1] 29)).heap[w.heap.size]? = some (.cells #[.int .i64 0, .string ⟨#[]⟩, .string ⟨#[]⟩] 29 (0, 0))) := (heap_alloc_old _ _ hwr).trans HXr.out
      have c0 := HEB.out.c0
      have c1 := HEB.out.c1
      have c2 := HEB.out.c2
      by_cases he : nm1 = name
      · have b1 : (nm1.toList == name.toList) = true := by rw [he]; simp
        have HR := hidM (HYK.out he HB.out)
        clear he HYK HNX
        go_wp2_with (refine wpList_store_row rfl 29 (.tmp 4) (.tmp 18) rfl w.heap.size #[.int .i64 m1, .string nm1, .string id1] rfl rfl 29 #[.int .i64 0, .string ⟨#[]⟩, .string ⟨#[]⟩] HXa.out entry29 rfl (ones29 _ _ _) ?_)
        exact bodyPost_ret (results_ct rfl _ _ w.heap.size _ rfl (run_loadVar_row _ w.heap.size 29 29 _ (0, 0) _ (setRow_heap _ _ _ _ 29 _ HXa.out) Tryd.underlying29 rfl entry29)) rfl ⟨by rw [HR.out]; rfl, below_setRow HBa.out (Nat.le_refl _)⟩
      · have b1 := bytes_ne he
        have HN2 := hidM (HNX.out he)
        clear he HYK HNX
        go_wp2
        go_roundw
        case rel => exact ⟨k + 1, by omega, by go_num, HN2.out, HBa.out, HXa.out⟩
        case measure => simp [intOf]; omega
    · have HR := hidM (HNO.out fun j hj => HB.out j (by omega))
      clear HAB HYE HNO
      go_wp2_with (refine wpList_store_row rfl 29 (.tmp 4) (.tmp 20) rfl w.heap.size #[.int .i64 0, .string ⟨#[]⟩, .string ⟨#[]⟩] rfl rfl 29 #[.int .i64 0, .string ⟨#[]⟩, .string ⟨#[]⟩] HXr.out entry29 rfl (ones29 _ _ _) ?_)
      exact bodyPost_ret (results_ct rfl _ _ w.heap.size _ rfl (run_loadVar_row _ w.heap.size 29 29 _ (0, 0) _ (setRow_heap _ _ _ _ 29 _ HXr.out) Tryd.underlying29 rfl entry29)) rfl ⟨by rw [HR.out]; rfl, below_setRow HW.out (Nat.le_refl _)⟩
end Go.Proofs.YtccohagdfpcplaaDoor
